/- The statement DocsBack, proved for every input that its row reads: part 3 of 6. -/
import Derived.Shelf.Spec.SlicesInsertGrow
import Derived.Outline
import Derived.Lib.Strings
import Derived.Lib.Walk
import Derived.Lib.BufferWrite
import Derived.Lib.UnsafeStr
import Derived.Laws.MakeOwn
import Derived.Deep.QuietTactic
import Derived.BigQuiet
import Derived.ProofKit
import Derived.SizedLaws
import Derived.ChangeOld
import Derived.ShutString
import Derived.Test.YtjmglgcifekhgaaDoorProg
import Derived.Test.YtjmglgcifekhgaaDoorPackDocsBack2
/- slices.Insert of one write into writes of one's own. -/
namespace Go.Proofs.YtjmglgcifekhgaaDoor
open Go Go.RowKit Go.Lib
set_option linter.unusedVariables false
set_option maxRecDepth 1000000

theorem run_copyK {P : Program} (w : World) (dT sT ty elem : TypeId) (b o dLen dCap : Nat) (a : Addr) (sLen sCap n k : Nat) (cs : List Value)
    (hu : P.underlying dT = some (.slice elem)) (hs : (P.info? elem).map (·.size) = some k) (hn : n = Nat.min sLen dLen) (hl : cs.length = n * k)
    (hsrc : ∀ j v, cs[j]? = some v → w.cell? (a.add j) = some v) (hc : ∀ j, j < cs.length → (w.cell? ⟨b, o + j, none⟩).isSome = true) (hf : ∀ j, j < cs.length → w.frozen? ⟨b, o + j, none⟩ = false) (h1 : ∀ v ∈ cs, v.oneCell' = true) :
    (Builtin.copy_ #[dT, sT] ty #[.slice (some ⟨b, o, none⟩) dLen dCap, .slice (some a) sLen sCap]).run P w = .ok (goInt n) (w.setCells b o cs) := by
  have hld := run_loadCells_list (P := P) w a cs hsrc
  have hst := run_storeCells_cells (P := P) b o cs 0 w (by simpa using hc) (by simpa using hf) h1
  cases hq : P.info? elem with
  | none => simp [hq] at hs
  | some i =>
    have hi : i.size = k := by simpa [hq] using hs
    rw [hl] at hld
    simp [Builtin.copy_, run_underlying hu, Builtin.lenOf, Builtin.firstCells, sizeOf, typeInfo, hq, hi, ← hn, hld, hst]
theorem shape_of {w : World} {b : Nat} {cs : Array Value} {t : TypeId} {m : Nat × Nat} (h : w.heap[b]? = some (.cells cs t m)) : w.shape? b = some (t, cs.size) := by
  unfold World.shape?
  rw [h]
/-- room for one more -/
theorem own_more {w : World} {B n c g k : Nat} {e : TypeId} {xs : List Value} (h : w.ownsRow B e k (.slice (some ⟨g, 0, none⟩) n c) n xs) (hc : n + 1 ≤ c) : ∃ junk, junk.length = k ∧ w.ownsRow B e k (.slice (some ⟨g, 0, none⟩) (n + 1) c) (n + 1) (xs ++ junk) := by
  have hx := h.1
  rcases h.2 with ⟨h1, _⟩ | ⟨g', cap, cur, h1, hB, hg, hcc, hm, hs, ht⟩
  · cases h1
  · injection h1 with h1 _ h3
    injection h1 with h1
    injection h1 with h1 _ _
    subst h1; subst h3
    have hk : (n + 1) * k ≤ c * k := Nat.mul_le_mul_right k hc
    have hk2 : (n + 1) * k = n * k + k := Nat.succ_mul n k
    have hl : cur.toList.length = c * k := by rw [Array.length_toList, hs]
    refine ⟨(cur.toList.drop (n * k)).take k, by rw [List.length_take, List.length_drop, hl]; omega, ?_, .inr ⟨g, c, cur, rfl, hB, hg, hc, hm, hs, ?_⟩⟩
    · rw [List.length_append, List.length_take, List.length_drop, hl, hx]; omega
    · rw [← ht, hk2, List.take_add]
/-- one put in -/
def insAt (l : List Wr) (i : Nat) (x : Wr) : List Wr := l.take i ++ x :: l.drop i
theorem insAt_len (l : List Wr) (i : Nat) (x : Wr) (h : i ≤ l.length) : (insAt l i x).length = l.length + 1 := by
  unfold insAt; rw [List.length_append, List.length_cons, List.length_take, List.length_drop]; omega
theorem wcl_drop : ∀ (L : List Wr) (k : Nat), wcl (L.drop k) = (wcl L).drop (k * 6)
  | [], k => by simp [wcl]
  | x :: L, 0 => by simp [wcl]
  | x :: L, k + 1 => by
    have h := wcl_drop L k
    rw [List.drop_succ_cons, show wcl (x :: L) = x.cells ++ wcl L from rfl, h, show (k + 1) * 6 = x.cells.length + k * 6 by rw [Wr.cells_len]; omega, List.drop_length_add_append]
/-- whatever stood behind the first ones, a write and the others put there -/
theorem ins_cells (l : List Wr) (i : Nat) (x : Wr) (hi : i ≤ l.length) (xs : List Value) (hl : xs.length = (l.length + 1) * 6) (hf : xs.take (i * 6) = (wcl l).take (i * 6)) :
    setLL (setLL xs ((i + 1) * 6) (wcl (l.drop i))) (i * 6) x.cells = wcl (insAt l i x) ∧ setLL (setLL xs (i * 6) x.cells) ((i + 1) * 6) (wcl (l.drop i)) = wcl (insAt l i x) := by
  have hd : (wcl (l.drop i)).length = (l.length - i) * 6 := by rw [wcl_length, List.length_drop]
  have ht : (wcl (l.take i)).length = i * 6 := by rw [wcl_length, List.length_take]; omega
  have he : wcl (insAt l i x) = wcl (l.take i) ++ (x.cells ++ wcl (l.drop i)) := by unfold insAt; rw [wcl_append]; rfl
  have hx := x.cells_len
  have key : ∀ j, (wcl (insAt l i x))[j]? = if j < i * 6 then xs[j]? else if j < (i + 1) * 6 then x.cells[j - i * 6]? else (wcl (l.drop i))[j - (i + 1) * 6]? := fun j => by
    rw [he]
    by_cases h1 : j < i * 6
    · rw [if_pos h1, List.getElem?_append_left (by omega), wcl_take, ← hf, List.getElem?_take_of_lt h1]
    · rw [if_neg h1, List.getElem?_append_right (by omega), ht]
      by_cases h2 : j < (i + 1) * 6
      · rw [if_pos h2, List.getElem?_append_left (by omega)]
      · rw [if_neg h2, List.getElem?_append_right (by omega), hx]
        congr 1; omega
  constructor
  · apply List.ext_getElem?
    intro j
    rw [key, setLL_get _ _ _ (by rw [setLL_length, hl, hx]; omega), setLL_get _ _ _ (by rw [hl, hd]; omega), hx, hd]
    by_cases h1 : j < i * 6
    · rw [if_pos h1, if_neg (by omega), if_neg (by omega)]
    · rw [if_neg h1]
      by_cases h2 : j < (i + 1) * 6
      · rw [if_pos h2, if_pos (by omega)]
      · rw [if_neg h2, if_neg (by omega)]
        by_cases h3 : j < (i + 1) * 6 + (l.length - i) * 6
        · rw [if_pos (by omega)]
        · rw [if_neg (by omega), List.getElem?_eq_none (by omega), List.getElem?_eq_none (by omega)]
  · apply List.ext_getElem?
    intro j
    rw [key, setLL_get _ _ _ (by rw [setLL_length, hl, hd]; omega), setLL_get _ _ _ (by rw [hl, hx]; omega), hx, hd]
    by_cases h1 : j < i * 6
    · rw [if_pos h1, if_neg (by omega), if_neg (by omega)]
    · rw [if_neg h1]
      by_cases h2 : j < (i + 1) * 6
      · rw [if_pos h2, if_neg (by omega), if_pos (by omega)]
      · rw [if_neg h2]
        by_cases h3 : j < (i + 1) * 6 + (l.length - i) * 6
        · rw [if_pos (by omega)]
        · rw [if_neg (by omega), if_neg (by omega), List.getElem?_eq_none (by omega), List.getElem?_eq_none (by omega)]
/-- writes of one's own, one more among them -/
def InsR (B : Nat) (l : List Wr) (w : World) (e : Ending) (w' : World) : Prop := ∃ v, e = .returned v ∧ w'.ownsRow B 50 6 v l.length (wcl l) ∧ Below B w w'
set_option maxHeartbeats 4000000 in
theorem insEnd_is (B : Nat) (q : Option Addr) (c : Nat) (l : List Wr) (x : Wr) (R : Nat) (w : World) (hO : w.ownsRow B 50 6 (.slice q l.length c) l.length (wcl l)) (hB : B ≤ w.heap.size) (hR : w.heap[R]? = some (.cells x.cells.toArray 50 (0, 0))) (hn : l.length ≤ 10000) (hlc : l.length ≤ c) :
    Calls Tryd.prog 60 #[.slice q l.length c, .int .i64 (l.length : Int), .slice (some ⟨R, 0, none⟩) 1 1] w (InsR B (insAt l l.length x) w) := by
  have HO := Lib.hid hO; have HR := Lib.hid hR
  clear hO hR
  have NW : Hid (∀ j u, x.cells[j]? = some u → w.cell? ((⟨R, 0, none⟩ : Addr).add j) = some u) := Lib.hid fun j u hu => by
    rw [Addr.add_lit, Nat.zero_add, cell_of_row _ R j _ _ _ HR.out]; simpa using hu
  have HX := Lib.hid x.cells_one
  have HI : Hid (wcl l ++ x.cells = wcl (insAt l l.length x)) := Lib.hid (by unfold insAt; rw [List.take_length, List.drop_length, wcl_append]; simp [wcl])
  have HL := Lib.hid (insAt_len l l.length x (Nat.le_refl _))
  obtain ⟨i0, hi, hz0, hz1, hz2⟩ := info_parts infoWr
  obtain ⟨n, hn2⟩ : ∃ n, l.length = n := ⟨_, rfl⟩
  rw [hn2] at HO HL HI hn hlc ⊢
  clear hn2
  have HI0 := Lib.hid hi; have Z0 := Lib.hid hz0; have Z1 := Lib.hid hz1; have Z2 := Lib.hid hz2
  clear hi hz0 hz1 hz2
  by_cases hcn : c = n
  · obtain rfl : n = c := hcn.symm
    clear hcn
    go_enter Tryd.func60, Tryd.ntmps60
    go_wp2_with (at_builtin; refine wpList_append_own _ rfl _ _ 24 rfl B 50 i0 _ 6 64 Tryd.underlying24 HI0.out Z0.out Z1.out Z2.out rfl (by decide) _ n _ rfl HO.out ⟨R, 0, none⟩ 1 1 x.cells rfl (by rw [Wr.cells_len]) NW.out HX.out (by unfold maxLen; omega) (by omega) hB ?_)
    intro v' w' h1 h2 _
    have O1 := Lib.hid h1
    have B1 := Lib.hid ((Below.refl B w).grown h2 hB (fun k hk => (HO.out.lt k hk).1))
    clear h1 h2
    go_wp2
    go_ret
    refine ⟨v', rfl, ?_, B1.out⟩
    rw [HL.out, ← HI.out]; exact O1.out
  · have hcn' : ¬ (n = c) := fun e => hcn e.symm
    go_enter Tryd.func60, Tryd.ntmps60
    go_wp2_with (at_builtin; refine wpList_append_own _ rfl _ _ 24 rfl B 50 i0 _ 6 64 Tryd.underlying24 HI0.out Z0.out Z1.out Z2.out rfl (by decide) _ n _ rfl HO.out ⟨R, 0, none⟩ 1 1 x.cells rfl (by rw [Wr.cells_len]) NW.out HX.out (by unfold maxLen; omega) (by omega) hB ?_)
    intro v' w' h1 h2 _
    have O1 := Lib.hid h1
    have B1 := Lib.hid ((Below.refl B w).grown h2 hB (fun k hk => (HO.out.lt k hk).1))
    clear h1 h2
    go_wp2
    go_ret
    refine ⟨v', rfl, ?_, B1.out⟩
    rw [HL.out, ← HI.out]; exact O1.out
set_option maxHeartbeats 8000000 in
theorem insShift_is (B g c i : Nat) (l : List Wr) (x : Wr) (R : Nat) (w : World) (hO : w.ownsRow B 50 6 (.slice (some ⟨g, 0, none⟩) l.length c) l.length (wcl l)) (hB : B ≤ w.heap.size) (hR : w.heap[R]? = some (.cells x.cells.toArray 50 (0, 0))) (hgR : R ≠ g) (hi : i < l.length) (hn : l.length ≤ 10000) (hlc : l.length + 1 ≤ c) (hc63 : c ≤ 9223372036854775807) :
    Calls Tryd.prog 60 #[.slice (some ⟨g, 0, none⟩) l.length c, .int .i64 (i : Int), .slice (some ⟨R, 0, none⟩) 1 1] w (InsR B (insAt l i x) w) := by
  have hgB := (hO.lt g rfl).1
  obtain ⟨junk, hj, hO'⟩ := own_more hO hlc
  have OD := own_later hO' (to_drew (Below.refl w.heap.size w))
  obtain ⟨IC, _⟩ := ins_cells l i x (by omega) (wcl l ++ junk) (by rw [List.length_append, wcl_length, hj]; omega) (by rw [List.take_append_of_le_length (by rw [wcl_length]; omega)])
  obtain ⟨n, hn2⟩ : ∃ n, l.length = n := ⟨_, rfl⟩
  have hdl : (wcl (l.drop i)).length = (n - i) * 6 := by rw [wcl_length, List.length_drop, hn2]
  have HL := Lib.hid (insAt_len l i x (by omega))
  have hD : ∀ j v, (wcl (l.drop i))[j]? = some v → w.drew.cell? ⟨g, i * 6 + j, none⟩ = some v := fun j v hv => by
    have hj2 : j < (l.length - i) * 6 := by have := (List.getElem?_eq_some_iff.1 hv).1; rw [wcl_length, List.length_drop] at this; exact this
    rw [OD.cellAt (i * 6 + j) (by omega), List.getElem?_append_left (by rw [wcl_length]; omega)]
    rw [wcl_drop, List.getElem?_drop] at hv
    exact hv
  rw [hn2] at hO hO' OD hi hn hlc HL ⊢
  have hcell : ∀ j, j < (n + 1) * 6 → (w.drew.cell? ⟨g, j, none⟩).isSome = true := fun j hjl => by
    rw [OD.cellAt j hjl, List.getElem?_eq_getElem (by rw [List.length_append, wcl_length, hj, hn2]; omega)]; rfl
  have hsz : (Tryd.prog.info? 50).map (·.size) = some 6 := by kernel_rfl
  have hov : ∀ lb cb, (callFunc 82 #[.slice (some ⟨R, 0, none⟩) 1 1, .slice (some ⟨g, (i + 1) * 6, none⟩) lb cb]).run Tryd.prog w = .ok (.value (.bool false)) w := fun lb cb => by
    have hsg : ∃ tB kB, w.shape? g = some (tB, kB) ∧ kB ≠ 0 := by
      rcases hO.2 with ⟨h1, _⟩ | ⟨g', cap, cur, h1, _, hg, hcc, _, hs, _⟩
      · cases h1
      · injection h1 with h1 _ _
        injection h1 with h1
        injection h1 with h1 _ _
        subst h1
        exact ⟨_, _, shape_of hg, by rw [hs]; omega⟩
    obtain ⟨tB, kB, h1, h2⟩ := hsg
    rw [run_callFunc_extern Tryd.func82 (by kernel_rfl) (by kernel_rfl) (by kernel_rfl) (e := Extern.SlicesOverlaps.overlaps #[24, 24] #[4]) (by kernel_rfl),
      Lib.run_overlaps_apart w 24 4 50 Tryd.underlying24 6 Tryd.sizeOf50 ⟨R, 0, none⟩ ⟨g, (i + 1) * 6, none⟩ 1 1 lb cb hgR _ _ _ _ (shape_of hR) h1 h2 (frozen_of_row w R 0 _ _ hR) (frozen_of_row w R _ _ _ hR)]
    rfl
  have hcp1 : ∀ ty dc sc, (Builtin.copy_ #[24, 24] ty #[.slice (some ⟨g, (i + 1) * 6, none⟩) (n + 1 - (i + 1)) dc, .slice (some ⟨g, i * 6, none⟩) (n + 1 - i) sc]).run Tryd.prog w.drew = .ok (goInt ((n - i : Nat) : Int)) (w.drew.setCells g ((i + 1) * 6) (wcl (l.drop i))) := fun ty dc sc =>
    run_copyK w.drew _ _ ty 50 g ((i + 1) * 6) (n + 1 - (i + 1)) dc ⟨g, i * 6, none⟩ (n + 1 - i) sc (n - i) 6 (wcl (l.drop i)) Tryd.underlying24 hsz (by simp only [Nat.min_def]; split <;> omega) hdl
      (fun j v hv => by rw [Addr.add_lit]; exact hD j v hv)
      (fun j hj2 => hcell _ (by rw [hdl] at hj2; omega)) (fun j hj2 => OD.frozenAt _) (wcl_one _)
  have O1 := own_setCells (wcl (l.drop i)) w.drew _ ((i + 1) * 6) OD
  have G1 := grown_setCells g (wcl (l.drop i)) w.drew ((i + 1) * 6)
  have R1 : (w.drew.setCells g ((i + 1) * 6) (wcl (l.drop i))).heap[R]? = some (.cells x.cells.toArray 50 (0, 0)) :=
    (G1.block R (Array.getElem?_eq_some_iff.1 (show w.drew.heap[R]? = _ from hR)).1 (by simpa using hgR)).trans hR
  obtain ⟨W1, hW1⟩ : ∃ W1, w.drew.setCells g ((i + 1) * 6) (wcl (l.drop i)) = W1 := ⟨_, rfl⟩
  rw [hW1] at hcp1 O1 G1 R1
  have hxl : (setLL (wcl l ++ junk) ((i + 1) * 6) (wcl (l.drop i))).length = (n + 1) * 6 := by rw [setLL_length, List.length_append, wcl_length, hj, hn2]; omega
  have hcp2 : ∀ ty dc, (Builtin.copy_ #[24, 24] ty #[.slice (some ⟨g, i * 6, none⟩) (n + 1 - i) dc, .slice (some ⟨R, 0, none⟩) 1 1]).run Tryd.prog W1 = .ok (goInt 1) (W1.setCells g (i * 6) x.cells) := fun ty dc =>
    run_copyK W1 _ _ ty 50 g (i * 6) (n + 1 - i) dc ⟨R, 0, none⟩ 1 1 1 6 x.cells Tryd.underlying24 hsz (by simp only [Nat.min_def]; split <;> omega) (by rw [Wr.cells_len])
      (fun j v hv => by rw [Addr.add_lit, Nat.zero_add, cell_of_row _ R j _ _ _ R1]; simpa using hv)
      (fun j hj2 => by rw [Wr.cells_len] at hj2; rw [O1.cellAt _ (by omega), List.getElem?_eq_getElem (by omega)]; rfl) (fun j hj2 => O1.frozenAt _) x.cells_one
  have O2 := own_setCells x.cells W1 _ (i * 6) O1
  have G2 := grown_setCells g x.cells W1 (i * 6)
  rw [IC] at O2
  have BF : Below B w (W1.setCells g (i * 6) x.cells) := by
    have b1 := grown_below G1 hB hgB
    exact (⟨b1.os, b1.tape, b1.output, b1.size, b1.block⟩ : Below B w W1).trans (grown_below G2 (Nat.le_trans hB G1.size) hgB)
  have OF := Lib.hid O2; have HBF := Lib.hid BF; have CP1 := Lib.hid hcp1; have CP2 := Lib.hid hcp2; have HOV := Lib.hid hov
  clear O2 BF hcp1 hcp2 O1 G1 G2 R1 hxl hcell hD hdl hO hO' OD IC hn2 hR hov hW1 hj
  have hw1 : IntKind.i64.wrap ((i : Int) + 1) = (i : Int) + 1 := by rw [IntKind.wrap_i64]; omega
  have hb1 : (0 : Int) ≤ (i : Int) + 1 := by omega
  have hin : i ≤ n := by omega
  have htn : ((i : Int) + 1).toNat = i + 1 := by omega
  have hb2 : ¬ (c = i + 1) := by omega
  have hb3 : (i : Int) ≤ (n : Int) + 1 := by omega
  have hb4 : ¬ (c = i) := by omega
  have hz2 : ((i : Int) == (n : Int)) = false := beq_eq_false_iff_ne.2 (by omega)
  have hz3 : ¬ ((n : Int) + 1 > (c : Int)) := by omega
  have hov := HOV.out
  go_enter Tryd.func60, Tryd.ntmps60
  go_wp2_with (simp only [hov])
  go_region_law (refine step_copy_runI rfl _ _ 24 24 rfl (.slice (some ⟨g, (i + 1) * 6, none⟩) (n + 1 - (i + 1)) (c - (i + 1))) (.slice (some ⟨g, i * 6, none⟩) (n + 1 - i) (c - i)) (by simp [Act.eval, Act.put]) (by simp [Act.eval, Act.put]) (CP1.out _ _ _) ?_)
  have cp2 := CP2.out 3 (c - i)
  go_wp2
  go_ret
  refine ⟨_, rfl, ?_, HBF.out⟩
  rw [HL.out]; exact OF.out
theorem zeroWrA (w : World) : (zeroValue 50).run Tryd.prog w = .ok (.agg #[.int .i64 0, .int .i64 0, .int .i64 0, .string ByteArray.empty, .int .i64 0, .string ByteArray.empty]) w := by kernel_rfl
set_option maxHeartbeats 8000000 in
theorem insGrow_is (B g c i : Nat) (l : List Wr) (x : Wr) (R : Nat) (w : World) (hO : w.ownsRow B 50 6 (.slice (some ⟨g, 0, none⟩) l.length c) l.length (wcl l)) (hB : B ≤ w.heap.size) (hR : w.heap[R]? = some (.cells x.cells.toArray 50 (0, 0))) (hi : i < l.length) (hn : l.length ≤ 10000) (hnc : l.length ≤ c) (hlc : c < l.length + 1) :
    Calls Tryd.prog 60 #[.slice (some ⟨g, 0, none⟩) l.length c, .int .i64 (i : Int), .slice (some ⟨R, 0, none⟩) 1 1] w (InsR B (insAt l i x) w) := by
  have hglt := (hO.lt g rfl).2
  have hRlt := (Array.getElem?_eq_some_iff.1 hR).1
  have OD := own_later hO (to_drew (Below.refl w.heap.size w))
  obtain ⟨n, hn2⟩ : ∃ n, l.length = n := ⟨_, rfl⟩
  have hdl : (wcl (l.drop i)).length = (n - i) * 6 := by rw [wcl_length, List.length_drop, hn2]
  have htl : (wcl (l.take i)).length = i * 6 := by rw [wcl_length, List.length_take]; omega
  have HL := Lib.hid (insAt_len l i x (by omega))
  have hD : ∀ j v, (wcl l)[j]? = some v → w.cell? ⟨g, j, none⟩ = some v := fun j v hv => by
    have hj2 : j < l.length * 6 := by have := (List.getElem?_eq_some_iff.1 hv).1; rwa [wcl_length] at this
    rw [hO.cellAt j hj2]; exact hv
  obtain ⟨i0, hi0, hz0, hzs, hzb⟩ := info_parts infoWr
  obtain ⟨zs, hzq⟩ : ∃ zs : Array Value, #[Value.int .i64 0, .int .i64 0, .int .i64 0, .string ByteArray.empty, .int .i64 0, .string ByteArray.empty] = zs := ⟨_, rfl⟩
  have hzsz : zs.size = 6 := by rw [← hzq]; rfl
  rw [hzq] at hz0
  have hzc : ∀ k, (Builtin.zeroCells (Value.agg zs).cells k).size = k * 6 := fun k => by simp [Builtin.zeroCells, Value.cells, hzsz]
  have hz1c : ∀ k, ∀ u ∈ (Builtin.zeroCells (Value.agg zs).cells k).toList, u.oneCell' = true ∨ True := fun k u _ => .inr trivial
  rw [hn2] at hO OD hi hn hnc hlc HL ⊢
  have hold : (Builtin.firstCells i0.size i (.slice (some ⟨g, 0, none⟩) i c)).run Tryd.prog w.drew = .ok (wcl (l.take i)).toArray w.drew := by
    rw [hzs]
    exact run_firstCells_some w.drew 6 i ⟨g, 0, none⟩ i c (wcl (l.take i)) htl (fun j v hj => by
      rw [Addr.add_lit, Nat.zero_add]
      rw [wcl_take] at hj
      have hj2 : j < i * 6 := by have := (List.getElem?_eq_some_iff.1 hj).1; rw [List.length_take] at this; omega
      rw [List.getElem?_take_of_lt hj2] at hj
      exact hD j v hj)
  have hik : i + (n + 1 - i) = n + 1 := by omega
  have hrz : ∀ ty, (Builtin.append_ #[24, 3] ty #[.slice (some ⟨g, 0, none⟩) i c, .int .i64 ((n : Int) + 1 - (i : Int))]).run Tryd.prog w =
      .ok (.slice (some ⟨w.heap.size, 0, none⟩) (n + 1) (grownCap w (n + 1) c 50)) (w.drew.alloc (.cells ((wcl (l.take i)).toArray ++ Builtin.zeroCells (Value.agg zs).cells (n + 1 - i) ++ Builtin.zeroCells (Value.agg zs).cells (grownCap w (n + 1) c 50 - (n + 1))) 50)) := fun ty => by
    have h := Lib.run_append_grow_zeros w 24 3 ty 50 i0 _ .i64 .i64 Tryd.underlying24 Tryd.underlying3 hi0 hz0 (some ⟨g, 0, none⟩) i c (wcl (l.take i)) hold (n + 1 - i) (by omega) (by omega) (by omega) (by omega) (by rw [hzb]; omega) (by rw [hzb, hik]; exact growslice_fits hlc (by omega))
    rw [hik] at h
    rw [show (n : Int) + 1 - (i : Int) = ((n + 1 - i : Nat) : Int) by omega]
    exact h
  have hGn := grownCap_ge w (n + 1) c 50
  have hGm := grownCap_le_maxLen w (n + 1) c 50 (by unfold maxLen; omega)
  obtain ⟨G, hG⟩ : ∃ G, grownCap w (n + 1) c 50 = G := ⟨_, rfl⟩
  rw [hG] at hrz hGn hGm
  obtain ⟨ROW, hROW⟩ : ∃ ROW : Array Value, (wcl (l.take i)).toArray ++ Builtin.zeroCells (Value.agg zs).cells (n + 1 - i) ++ Builtin.zeroCells (Value.agg zs).cells (G - (n + 1)) = ROW := ⟨_, rfl⟩
  rw [hROW] at hrz
  have hRs : ROW.size = G * 6 := by
    rw [← hROW, Array.size_append, Array.size_append, hzc, hzc, List.size_toArray, htl]
    omega
  have hRt : (ROW.toList.take ((n + 1) * 6)).take (i * 6) = (wcl l).take (i * 6) := by
    rw [List.take_take, Nat.min_eq_left (by omega), ← hROW, Array.toList_append, Array.toList_append, List.append_assoc, List.take_append_of_le_length (by simp only [List.toList_toArray]; omega)]
    rw [List.toList_toArray, List.take_of_length_le (by omega), wcl_take]
  obtain ⟨xs1, hxs1⟩ : ∃ xs, ROW.toList.take ((n + 1) * 6) = xs := ⟨_, rfl⟩
  have hx1l : xs1.length = (n + 1) * 6 := by rw [← hxs1, List.length_take, Array.length_toList, hRs]; omega
  rw [hxs1] at hRt
  obtain ⟨_, IC⟩ := ins_cells l i x (by omega) xs1 (by rw [hx1l, hn2]) hRt
  obtain ⟨W1, hW1⟩ : ∃ W1, w.drew.alloc (.cells ROW 50) = W1 := ⟨_, rfl⟩
  have N1 : W1.heap[w.heap.size]? = some (.cells ROW 50 (0, 0)) := by rw [← hW1]; exact heap_alloc_new w.drew _
  have B1 : Below w.heap.size w W1 := by rw [← hW1]; exact (to_drew (Below.refl w.heap.size w)).alloc (Nat.le_refl _) _
  rw [hW1] at hrz
  have O1 : W1.ownsRow B 50 6 (.slice (some ⟨w.heap.size, 0, none⟩) (n + 1) G) (n + 1) xs1 := ⟨hx1l, .inr ⟨w.heap.size, G, ROW, rfl, hB, N1, hGn, hGm, hRs, hxs1⟩⟩
  have hsz : (Tryd.prog.info? 50).map (·.size) = some 6 := by kernel_rfl
  have R1 : W1.heap[R]? = some (.cells x.cells.toArray 50 (0, 0)) := (B1.block R hRlt).trans hR
  have hcpA : ∀ ty dc, (Builtin.copy_ #[24, 24] ty #[.slice (some ⟨w.heap.size, i * 6, none⟩) (n + 1 - i) dc, .slice (some ⟨R, 0, none⟩) 1 1]).run Tryd.prog W1 = .ok (goInt 1) (W1.setCells w.heap.size (i * 6) x.cells) := fun ty dc =>
    run_copyK W1 _ _ ty 50 w.heap.size (i * 6) (n + 1 - i) dc ⟨R, 0, none⟩ 1 1 1 6 x.cells Tryd.underlying24 hsz (by simp only [Nat.min_def]; split <;> omega) (by rw [Wr.cells_len])
      (fun j v hv => by rw [Addr.add_lit, Nat.zero_add, cell_of_row _ R j _ _ _ R1]; simpa using hv)
      (fun j hj2 => by rw [Wr.cells_len] at hj2; rw [O1.cellAt _ (by omega), List.getElem?_eq_getElem (by omega)]; rfl) (fun j hj2 => O1.frozenAt _) x.cells_one
  have O2 := own_setCells x.cells W1 _ (i * 6) O1
  have G2 := grown_setCells w.heap.size x.cells W1 (i * 6)
  obtain ⟨W2, hW2⟩ : ∃ W2, W1.setCells w.heap.size (i * 6) x.cells = W2 := ⟨_, rfl⟩
  rw [hW2] at hcpA O2 G2
  have O2d := own_later O2 (to_drew (Below.refl W2.heap.size W2))
  have hx2l : (setLL xs1 (i * 6) x.cells).length = (n + 1) * 6 := by rw [setLL_length, hx1l]
  have hold2 : ∀ j v, (wcl l)[j]? = some v → W2.drew.cell? ⟨g, j, none⟩ = some v := fun j v hv => by
    have h1 := hD j v hv
    have b12 : Below w.heap.size w W2 := B1.trans (grown_below G2 B1.size (Nat.le_refl _))
    rw [World.cell?_of_block (w := w) (a := ⟨g, j, none⟩) ((to_drew b12).block g hglt)]
    exact h1
  have hcpB : ∀ ty dc sc, (Builtin.copy_ #[24, 24] ty #[.slice (some ⟨w.heap.size, (i + 1) * 6, none⟩) (n + 1 - (i + 1)) dc, .slice (some ⟨g, i * 6, none⟩) (n - i) sc]).run Tryd.prog W2.drew = .ok (goInt ((n - i : Nat) : Int)) (W2.drew.setCells w.heap.size ((i + 1) * 6) (wcl (l.drop i))) := fun ty dc sc =>
    run_copyK W2.drew _ _ ty 50 w.heap.size ((i + 1) * 6) (n + 1 - (i + 1)) dc ⟨g, i * 6, none⟩ (n - i) sc (n - i) 6 (wcl (l.drop i)) Tryd.underlying24 hsz (by simp only [Nat.min_def]; split <;> omega) hdl
      (fun j v hv => by
        rw [Addr.add_lit]
        rw [wcl_drop, List.getElem?_drop] at hv
        exact hold2 _ v hv)
      (fun j hj2 => by rw [hdl] at hj2; rw [O2d.cellAt _ (by omega), List.getElem?_eq_getElem (by omega)]; rfl) (fun j hj2 => O2d.frozenAt _) (wcl_one _)
  have O3 := own_setCells (wcl (l.drop i)) W2.drew _ ((i + 1) * 6) O2d
  rw [IC] at O3
  have BF : Below B w (W2.drew.setCells w.heap.size ((i + 1) * 6) (wcl (l.drop i))) := by
    have b1 : Below B w W1 := B1.mono hB
    have b2 := grown_below G2 (Nat.le_trans hB B1.size) hB
    have b3 := grown_below (grown_setCells w.heap.size (wcl (l.drop i)) W2.drew ((i + 1) * 6)) (Nat.le_trans hB (Nat.le_trans B1.size G2.size)) hB
    exact (to_drew (b1.trans b2)).trans b3
  have OF := Lib.hid O3; have HBF := Lib.hid BF; have CPA := Lib.hid hcpA; have CPB := Lib.hid hcpB; have HRZ := Lib.hid hrz
  have hw1 : IntKind.i64.wrap ((i : Int) + 1) = (i : Int) + 1 := by rw [IntKind.wrap_i64]; omega
  have hb1 : (0 : Int) ≤ (i : Int) + 1 := by omega
  have hin : i ≤ n := by omega
  have htn : ((i : Int) + 1).toNat = i + 1 := by omega
  have hb3 : (i : Int) ≤ (n : Int) := by omega
  have hci : ¬ (c = i) := by omega
  have hGi : ¬ (G = i) := by omega
  have hGim : ¬ (G = i + 1) := by omega
  have hG63 : G ≤ 9223372036854775807 := by unfold maxLen at hGm; omega
  have hz2 : ((i : Int) == (n : Int)) = false := beq_eq_false_iff_ne.2 (by omega)
  have hz3 : (n : Int) + 1 > (c : Int) := by omega
  clear O3 BF hcpA hcpB hrz O1 O2 O2d G2 R1 hold2 hx2l hx1l hRt hRs hROW hxs1 hW1 hW2 N1 B1 hold hik hG hD hdl htl hO OD IC hn2 hR hzc hz1c hzsz hzq hi0 hz0 hzs hzb
  go_enter Tryd.func60, Tryd.ntmps60
  have cpA := CPA.out 3 (G - i)
  go_wp2_with (at_builtin; refine Lib.wpList_append_run _ rfl _ _ _ _ rfl _ _ rfl rfl _ _ (HRZ.out _) ?_)
  go_region_law (refine step_copy_runI rfl _ _ 24 24 rfl (.slice (some ⟨w.heap.size, (i + 1) * 6, none⟩) (n + 1 - (i + 1)) (G - (i + 1))) (.slice (some ⟨g, i * 6, none⟩) (n - i) (c - i)) (by simp [Act.eval, Act.put]) (by simp [Act.eval, Act.put]) (CPB.out _ _ _) ?_)
  go_wp2
  go_ret
  refine ⟨_, rfl, ?_, HBF.out⟩
  rw [HL.out]; exact OF.out
/-- slices.Insert of a write at any place -/
theorem insSl_is (B : Nat) (q : Option Addr) (c i : Nat) (l : List Wr) (x : Wr) (R : Nat) (w : World) (hO : w.ownsRow B 50 6 (.slice q l.length c) l.length (wcl l)) (hB : B ≤ w.heap.size) (hR : w.heap[R]? = some (.cells x.cells.toArray 50 (0, 0))) (hqR : ∀ g, q = some ⟨g, 0, none⟩ → R ≠ g) (hi : i ≤ l.length) (hn : l.length ≤ 10000) :
    Calls Tryd.prog 60 #[.slice q l.length c, .int .i64 (i : Int), .slice (some ⟨R, 0, none⟩) 1 1] w (InsR B (insAt l i x) w) := by
  have hlc : l.length ≤ c ∧ c ≤ 9223372036854775807 ∧ (l ≠ [] → ∃ g, q = some ⟨g, 0, none⟩) := by
    rcases hO.2 with ⟨h1, h2⟩ | ⟨g, cap, cur, h1, _, _, h4, h5, _⟩
    · injection h1 with _ _ h3
      exact ⟨by omega, by omega, fun h => absurd (List.eq_nil_of_length_eq_zero h2) h⟩
    · injection h1 with h1 _ h3
      unfold maxLen at h5
      exact ⟨by omega, by omega, fun _ => ⟨g, h1⟩⟩
  obtain ⟨h1, h2, h3⟩ := hlc
  by_cases he : i = l.length
  · subst he
    exact insEnd_is B q c l x R w hO hB hR hn h1
  · obtain ⟨g, rfl⟩ := h3 (by intro e; subst e; simp at hi; exact he hi)
    by_cases hc : l.length + 1 ≤ c
    · exact insShift_is B g c i l x R w hO hB hR (hqR g rfl) (by omega) hn hc h2
    · exact insGrow_is B g c i l x R w hO hB hR (by omega) hn h1 (by omega)
open Go Go.RowKit
set_option maxRecDepth 1000000

/-- does a write stand ahead of another? -/
def ltW (x y : Wr) : Bool := decide (cmpW x y < 0)
def posW (l : List Wr) (x : Wr) : Nat := (l.takeWhile fun y => ltW y x).length
def insW (l : List Wr) (x : Wr) : List Wr := insAt l (posW l x) x
theorem posW_le (l : List Wr) (x : Wr) : posW l x ≤ l.length := by
  unfold posW
  exact List.Sublist.length_le (List.takeWhile_sublist _)
theorem posW_is : ∀ (l : List Wr) (x : Wr) (k : Nat) (hk : k ≤ l.length) (h1 : ∀ i (h : i < l.length), i < k → ltW l[i] x = true) (h2 : ∀ h : k < l.length, ltW l[k] x = false), posW l x = k
  | [], x, k, hk, _, _ => by
    have : k = 0 := by simpa using hk
    subst this; rfl
  | y :: l, x, 0, hk, _, h2 => by
    have h3 : ltW y x = false := h2 (by simp)
    unfold posW
    rw [List.takeWhile_cons_of_neg (by simp [h3])]; rfl
  | y :: l, x, k + 1, hk, h1, h2 => by
    have h3 : ltW y x = true := h1 0 (by simp) (by omega)
    have ih := posW_is l x k (by simpa using hk) (fun i h hi => h1 (i + 1) (by simpa using h) (by omega)) (fun h => h2 (by simpa using h))
    unfold posW at ih ⊢
    rw [List.takeWhile_cons_of_pos (by simpa using h3), List.length_cons, ih]
theorem exec_idxW {o : Oper} {a : Act} (x y : Operand) (ho : o.op = .indexAddr 24 x y) (b f len cap k : Nat) (hx : a.eval x = .slice (some ⟨b, f, none⟩) len cap) (hy : a.eval y = .int .i64 (k : Int)) (hk : k < len) (w : World) :
    (execOp a.eval o).run Tryd.prog w = .ok (.value (.pointer (some ⟨b, f + k * 6, none⟩))) w := by
  have hs : ∀ w : World, (sizeOf (Tryd.prog.elem 24)).run Tryd.prog w = .ok 6 w := fun w => by kernel_rfl
  unfold execOp
  simp only [ho, hx, hy]
  refine run_value_of ?_
  rw [run_indexAt_slice (h := Tryd.underlying24), if_pos (by omega), hs]
  simp only [Result.andThen_ok, Int.toNat_natCast]
  cases k <;> simp [Addr.add]
set_option maxHeartbeats 8000000 in
theorem docInsert_is (B : Nat) (q : Option Addr) (c : Nat) (l : List Wr) (x : Wr) (w : World) (hO : w.ownsRow B 50 6 (.slice q l.length c) l.length (wcl l)) (hB : B ≤ w.heap.size) (hn : l.length ≤ 10000) :
    Calls Tryd.prog 30 #[.slice q l.length c, .agg x.cells.toArray] w (InsR B (insW l x) w) := by
  have HO := Lib.hid hO
  clear hO
  have TAIL : Hid (∀ (V : World) (k : Nat), Below w.heap.size w V → k ≤ l.length → (∀ i (h : i < l.length), i < k → ltW l[i] x = true) → (∀ h : k < l.length, ltW l[k] x = false) → Calls Tryd.prog 60 #[.slice q l.length c, .int .i64 (k : Int), .slice (some ⟨V.heap.size, 0, none⟩) 1 1] (V.alloc (.cells x.cells.toArray 50)) (InsR B (insW l x) w)) := Lib.hid fun V k hV hk h1 h2 => by
    have hp := posW_is l x k hk h1 h2
    have b2 := below_alloc V (.cells x.cells.toArray 50)
    have := insSl_is B q c k l x V.heap.size (V.alloc (.cells x.cells.toArray 50)) (own_later HO.out (thenBelow hV b2)) (Nat.le_trans hB (thenBelow hV b2).size) (heap_alloc_new V _) (fun g hg => by
      have h3 := (HO.out.lt g (by rw [hg]; rfl)).2
      have h4 := hV.size
      omega) hk hn
    refine this.mono fun e w' ⟨v, h3, h4, h5⟩ => ⟨v, h3, ?_, ((thenBelow hV b2).mono hB).trans h5⟩
    unfold insW
    rw [hp]; exact h4
  go_enter Tryd.func30, Tryd.ntmps30
  go_wp2_with (refine wpList_gbox rfl _ rfl x.cells.toArray rfl ?_)
  intro g3 w1 l3 h3 hb1
  have B1 := Lib.hid hb1
  have R1 : Hid (w1.rangeAt g3 0 x.cells) := Lib.hid (by simpa using range_of_block h3)
  clear hb1 h3
  have CMP : Hid (∀ y U, Calls Tryd.prog 38 #[.agg y.cells.toArray, .agg x.cells.toArray] U fun e w' => e = .returned (.int .i64 (cmpW y x)) ∧ Below U.heap.size U w') := Lib.hid fun y U => docCompare_is y x U
  have HXC := Lib.hid (rfl : x.cells = x.cells)
  go_wp2
  go_loopw [5] (fun i wr => ∃ k : Nat, k ≤ l.length ∧ i = .int .i64 k ∧ (∀ i (h : i < l.length), i < k → ltW l[i] x = true) ∧ Below w1.heap.size w1 wr) (fun i _ => l.length - (RowKit.intOf i).toNat)
  case atStart => exact ⟨0, Nat.zero_le _, rfl, fun i _ h => by omega, Below.refl _ _⟩
  case round =>
    obtain ⟨k, hk, rfl, hall, hb⟩ := hrel
    have HA := Lib.hid hall; have BB := Lib.hid hb
    clear hall hb
    go_wp2_with fail
    rename_i K2 hK2
    have BD := Lib.hid (to_drew BB.out)
    have XD : Hid (wr.drew.rangeAt g3 0 x.cells) := Lib.hid (range_below R1.out (to_drew BB.out))
    by_cases hkl : k < l.length
    · have LB : Hid (decide ((k : Int) < (l.length : Int)) = true) := Lib.hid (decide_eq_true (by omega))
      have OWD := own_later HO.out (to_drew (thenBelow B1.out BB.out))
      obtain ⟨g, rfl⟩ : ∃ g, q = some ⟨g, 0, none⟩ := by
        rcases OWD.2 with ⟨h1, h2⟩ | ⟨g, cap, cur, h1, _⟩
        · omega
        · injection h1 with h1 _ _
          exact ⟨g, h1⟩
      have YD : Hid (wr.drew.rangeAt g (0 + k * 6) l[k].cells) := Lib.hid fun j u hu => by
        have hj : j < 6 := (List.getElem?_eq_some_iff.1 hu).1
        rw [Nat.zero_add, OWD.cellAt (k * 6 + j) (by omega), show wcl l = l.flatMap Wr.cells from rfl, flat_get Wr.cells_len l k hkl j hj]
        exact hu
      clear OWD
      obtain ⟨y, hy⟩ : ∃ y, l[k] = y := ⟨_, rfl⟩
      rw [hy] at YD
      have YC := Lib.hid hy
      clear hy
      by_cases hlt : cmpW y x < 0
      · have CB : Hid (decide (cmpW y x < 0) = true) := Lib.hid (decide_eq_true hlt)
        have NA : Hid (∀ i (h : i < l.length), i < k + 1 → ltW l[i] x = true) := Lib.hid fun i h hi => by
          rcases Nat.lt_or_ge i k with h3 | h3
          · exact HA.out i h h3
          · obtain rfl : i = k := by omega
            rw [YC.out]; exact CB.out
        clear hlt
        refine rg_calm (by kernel_rfl) rfl (S := fun U => U.rangeAt g (0 + k * 6) y.cells ∧ U.rangeAt g3 0 x.cells ∧ Below w1.heap.size w1 U) ?_
        have m0 := And.intro YD.out (And.intro XD.out BD.out)
        have keep : ∀ U U' : World, Below U.heap.size U U' → U.rangeAt g (0 + k * 6) y.cells ∧ U.rangeAt g3 0 x.cells ∧ Below w1.heap.size w1 U → U'.rangeAt g (0 + k * 6) y.cells ∧ U'.rangeAt g3 0 x.cells ∧ Below w1.heap.size w1 U' := fun U U' hb h => ⟨range_below h.1 hb, range_below h.2.1 hb, thenBelow h.2.2 hb⟩
        refine rgd_pure 0 (some 6) rfl rfl (.int .i64 (k : Int)) (by kernel_rfl) (by kernel_rfl) (by kernel_rfl) (fun _ _ _ _ h => h) (by kernel_rfl) (fun w => by kernel_rfl) m0 ?_
        refine rgd_pure 1 (some 7) rfl rfl (.slice (some ⟨g, 0, none⟩) l.length c) (by kernel_rfl) (by kernel_rfl) (by kernel_rfl) (fun _ _ _ _ h => h) (by kernel_rfl) (fun w => by kernel_rfl) m0 ?_
        refine rgd_pure 2 (some 8) rfl rfl (.int .i64 (l.length : Int)) (by kernel_rfl) (by kernel_rfl) (by kernel_rfl) (fun _ _ _ _ h => h) (by kernel_rfl) (fun w => by kernel_rfl) m0 ?_
        refine rgd_pure 3 (some 9) rfl rfl (.bool true) (by kernel_rfl) (by kernel_rfl) (by kernel_rfl) (fun _ _ _ _ h => h) (by kernel_rfl) (exec_lss _ _ _ _ rfl (k : Int) (l.length : Int) true LB.out (by kernel_rfl) (by kernel_rfl)) m0 ?_
        refine rgd_pure 4 (some 10) rfl rfl (.bool true) (by kernel_rfl) (by kernel_rfl) (by kernel_rfl) (fun _ _ _ _ h => h) (by kernel_rfl) (fun w => by kernel_rfl) m0 ?_
        refine rgd_pure 5 (some 11) rfl rfl (.slice (some ⟨g, 0, none⟩) l.length c) (by kernel_rfl) (by kernel_rfl) (by kernel_rfl) (fun _ _ _ _ h => h) (by kernel_rfl) (fun w => by kernel_rfl) m0 ?_
        refine rgd_pure 6 (some 12) rfl rfl (.int .i64 (k : Int)) (by kernel_rfl) (by kernel_rfl) (by kernel_rfl) (fun _ _ _ _ h => h) (by kernel_rfl) (fun w => by kernel_rfl) m0 ?_
        refine rgd_pure 7 (some 13) rfl rfl (.pointer (some ⟨g, 0 + k * 6, none⟩)) (by kernel_rfl) (by kernel_rfl) (by kernel_rfl) (fun _ _ _ _ h => h) (by kernel_rfl) (exec_idxW _ _ rfl g 0 l.length c k (by kernel_rfl) (by kernel_rfl) hkl) m0 ?_
        refine rgd_pureS 8 (some 14) rfl rfl (.agg y.cells.toArray) (by kernel_rfl) (by kernel_rfl) (by kernel_rfl) (fun _ _ _ _ h => h) (by kernel_rfl) (fun U hU => exec_gload 50 _ rfl g (0 + k * 6) (by kernel_rfl) _ hU.1 Tryd.underlying50 rfl (sizeWr y)) m0 ?_
        refine rgd_pureS 9 (some 15) rfl rfl (.agg x.cells.toArray) (by kernel_rfl) (by kernel_rfl) (by kernel_rfl) (fun _ _ _ _ h => h) (by kernel_rfl) (fun U hU => exec_gload 50 _ rfl g3 (0) (by kernel_rfl) _ hU.2.1 Tryd.underlying50 rfl (sizeWr x)) m0 ?_
        refine rgd_call 10 (some 16) (by kernel_rfl) rfl rfl (by kernel_rfl) 38 (#[.agg y.cells.toArray, .agg x.cells.toArray]) (by kernel_rfl) (CMP.out y _) ?_
        rintro _ U1 ⟨rfl, bU1⟩
        have m1 := keep _ _ bU1 m0
        refine ⟨_, rfl, m1, ?_⟩
        refine rgd_pure 11 (some 17) rfl rfl (.bool true) (by kernel_rfl) (by kernel_rfl) (by kernel_rfl) (fun _ _ _ _ h => h) (by kernel_rfl) (exec_lss _ _ _ _ rfl (cmpW y x) 0 true CB.out (by kernel_rfl) (by kernel_rfl)) m1 ?_
        refine rgd_pure 12 (some 18) rfl rfl (.bool true) (by kernel_rfl) (by kernel_rfl) (by kernel_rfl) (fun _ _ _ _ h => h) (by kernel_rfl) (fun w => by kernel_rfl) m1 ?_
        have M1 := Lib.hid m1
        have KE : K2 { tmps := #[.slice (some ⟨g, 0, none⟩) l.length c, .agg x.cells.toArray, undef, .pointer (some ⟨g3, 0, none⟩), .slice none 0 0, .int .i64 (k : Int), .int .i64 (k : Int), .slice (some ⟨g, 0, none⟩) l.length c, .int .i64 (l.length : Int), .bool true, .bool true, .slice (some ⟨g, 0, none⟩) l.length c, .int .i64 (k : Int), .pointer (some ⟨g, 0 + k * 6, none⟩), .agg y.cells.toArray, .agg x.cells.toArray, .int .i64 (cmpW y x), .bool true, .bool true, u19, u20, undef, undef, undef, undef, undef], defers := [] } U1 := by
          refine hK2 _ _ ?_
          clear hK2 keep m0 m1
          go_wp2
          go_roundw
          case rel => exact ⟨k + 1, by omega, by go_num, NA.out, M1.out.2.2⟩
          case measure => simp [RowKit.intOf]; omega
        exact wpAnyH_done (by kernel_rfl) (Eq.mp (by kernel_rfl) KE) _
      · have CB : Hid (decide (cmpW y x < 0) = false) := Lib.hid (decide_eq_false hlt)
        have NF : Hid (∀ h : k < l.length, ltW l[k] x = false) := Lib.hid fun h => by rw [YC.out]; exact CB.out
        clear hlt
        refine rg_calm (by kernel_rfl) rfl (S := fun U => U.rangeAt g (0 + k * 6) y.cells ∧ U.rangeAt g3 0 x.cells ∧ Below w1.heap.size w1 U) ?_
        have m0 := And.intro YD.out (And.intro XD.out BD.out)
        have keep : ∀ U U' : World, Below U.heap.size U U' → U.rangeAt g (0 + k * 6) y.cells ∧ U.rangeAt g3 0 x.cells ∧ Below w1.heap.size w1 U → U'.rangeAt g (0 + k * 6) y.cells ∧ U'.rangeAt g3 0 x.cells ∧ Below w1.heap.size w1 U' := fun U U' hb h => ⟨range_below h.1 hb, range_below h.2.1 hb, thenBelow h.2.2 hb⟩
        refine rgd_pure 0 (some 6) rfl rfl (.int .i64 (k : Int)) (by kernel_rfl) (by kernel_rfl) (by kernel_rfl) (fun _ _ _ _ h => h) (by kernel_rfl) (fun w => by kernel_rfl) m0 ?_
        refine rgd_pure 1 (some 7) rfl rfl (.slice (some ⟨g, 0, none⟩) l.length c) (by kernel_rfl) (by kernel_rfl) (by kernel_rfl) (fun _ _ _ _ h => h) (by kernel_rfl) (fun w => by kernel_rfl) m0 ?_
        refine rgd_pure 2 (some 8) rfl rfl (.int .i64 (l.length : Int)) (by kernel_rfl) (by kernel_rfl) (by kernel_rfl) (fun _ _ _ _ h => h) (by kernel_rfl) (fun w => by kernel_rfl) m0 ?_
        refine rgd_pure 3 (some 9) rfl rfl (.bool true) (by kernel_rfl) (by kernel_rfl) (by kernel_rfl) (fun _ _ _ _ h => h) (by kernel_rfl) (exec_lss _ _ _ _ rfl (k : Int) (l.length : Int) true LB.out (by kernel_rfl) (by kernel_rfl)) m0 ?_
        refine rgd_pure 4 (some 10) rfl rfl (.bool true) (by kernel_rfl) (by kernel_rfl) (by kernel_rfl) (fun _ _ _ _ h => h) (by kernel_rfl) (fun w => by kernel_rfl) m0 ?_
        refine rgd_pure 5 (some 11) rfl rfl (.slice (some ⟨g, 0, none⟩) l.length c) (by kernel_rfl) (by kernel_rfl) (by kernel_rfl) (fun _ _ _ _ h => h) (by kernel_rfl) (fun w => by kernel_rfl) m0 ?_
        refine rgd_pure 6 (some 12) rfl rfl (.int .i64 (k : Int)) (by kernel_rfl) (by kernel_rfl) (by kernel_rfl) (fun _ _ _ _ h => h) (by kernel_rfl) (fun w => by kernel_rfl) m0 ?_
        refine rgd_pure 7 (some 13) rfl rfl (.pointer (some ⟨g, 0 + k * 6, none⟩)) (by kernel_rfl) (by kernel_rfl) (by kernel_rfl) (fun _ _ _ _ h => h) (by kernel_rfl) (exec_idxW _ _ rfl g 0 l.length c k (by kernel_rfl) (by kernel_rfl) hkl) m0 ?_
        refine rgd_pureS 8 (some 14) rfl rfl (.agg y.cells.toArray) (by kernel_rfl) (by kernel_rfl) (by kernel_rfl) (fun _ _ _ _ h => h) (by kernel_rfl) (fun U hU => exec_gload 50 _ rfl g (0 + k * 6) (by kernel_rfl) _ hU.1 Tryd.underlying50 rfl (sizeWr y)) m0 ?_
        refine rgd_pureS 9 (some 15) rfl rfl (.agg x.cells.toArray) (by kernel_rfl) (by kernel_rfl) (by kernel_rfl) (fun _ _ _ _ h => h) (by kernel_rfl) (fun U hU => exec_gload 50 _ rfl g3 (0) (by kernel_rfl) _ hU.2.1 Tryd.underlying50 rfl (sizeWr x)) m0 ?_
        refine rgd_call 10 (some 16) (by kernel_rfl) rfl rfl (by kernel_rfl) 38 (#[.agg y.cells.toArray, .agg x.cells.toArray]) (by kernel_rfl) (CMP.out y _) ?_
        rintro _ U1 ⟨rfl, bU1⟩
        have m1 := keep _ _ bU1 m0
        refine ⟨_, rfl, m1, ?_⟩
        refine rgd_pure 11 (some 17) rfl rfl (.bool false) (by kernel_rfl) (by kernel_rfl) (by kernel_rfl) (fun _ _ _ _ h => h) (by kernel_rfl) (exec_lss _ _ _ _ rfl (cmpW y x) 0 false CB.out (by kernel_rfl) (by kernel_rfl)) m1 ?_
        refine rgd_pure 12 (some 18) rfl rfl (.bool false) (by kernel_rfl) (by kernel_rfl) (by kernel_rfl) (fun _ _ _ _ h => h) (by kernel_rfl) (fun w => by kernel_rfl) m1 ?_
        have M1 := Lib.hid m1
        have KE : K2 { tmps := #[.slice (some ⟨g, 0, none⟩) l.length c, .agg x.cells.toArray, undef, .pointer (some ⟨g3, 0, none⟩), .slice none 0 0, .int .i64 (k : Int), .int .i64 (k : Int), .slice (some ⟨g, 0, none⟩) l.length c, .int .i64 (l.length : Int), .bool true, .bool true, .slice (some ⟨g, 0, none⟩) l.length c, .int .i64 (k : Int), .pointer (some ⟨g, 0 + k * 6, none⟩), .agg y.cells.toArray, .agg x.cells.toArray, .int .i64 (cmpW y x), .bool false, .bool false, u19, u20, undef, undef, undef, undef, undef], defers := [] } U1 := by
          refine hK2 _ _ ?_
          clear hK2 keep m0 m1
          obtain ⟨c0, c1, c2, c3, c4, c5⟩ := wr_cells M1.out.2.1
          simp only [Nat.zero_add] at c0 c1 c2 c3 c4 c5
          have TL := Lib.hid (TAIL.out U1 k (thenBelow B1.out M1.out.2.2) hk HA.out NF.out)
          clear TAIL CMP HXC HA R1 M1 XD YD YC
          obtain ⟨r, n0, t, d, f, tx⟩ := x
          simp only [Wr.cells] at c0 c1 c2 c3 c4 c5 TL ⊢
          go_wp2_with fail
          refine TL.out.mono ?_
          rintro e w5 ⟨v, rfl, h1, h2⟩
          have F1 := Lib.hid h1; have F2 := Lib.hid h2
          clear h1 h2 TL
          go_wp2
          go_ret
          exact ⟨v, rfl, F1.out, F2.out⟩
        exact wpAnyH_done (by kernel_rfl) (Eq.mp (by kernel_rfl) KE) _
    · have LB : Hid (decide ((k : Int) < (l.length : Int)) = false) := Lib.hid (decide_eq_false (by omega))
      refine rg_calm (by kernel_rfl) rfl (S := fun U => True) ?_
      have m0 : True := trivial
      refine rgd_pure 0 (some 6) rfl rfl (.int .i64 (k : Int)) (by kernel_rfl) (by kernel_rfl) (by kernel_rfl) (fun _ _ _ _ h => h) (by kernel_rfl) (fun w => by kernel_rfl) m0 ?_
      refine rgd_pure 1 (some 7) rfl rfl (.slice q l.length c) (by kernel_rfl) (by kernel_rfl) (by kernel_rfl) (fun _ _ _ _ h => h) (by kernel_rfl) (fun w => by kernel_rfl) m0 ?_
      refine rgd_pure 2 (some 8) rfl rfl (.int .i64 (l.length : Int)) (by kernel_rfl) (by kernel_rfl) (by kernel_rfl) (fun _ _ _ _ h => h) (by kernel_rfl) (fun w => by kernel_rfl) m0 ?_
      refine rgd_pure 3 (some 9) rfl rfl (.bool false) (by kernel_rfl) (by kernel_rfl) (by kernel_rfl) (fun _ _ _ _ h => h) (by kernel_rfl) (exec_lss _ _ _ _ rfl (k : Int) (l.length : Int) false LB.out (by kernel_rfl) (by kernel_rfl)) m0 ?_
      refine rgd_pure 4 (some 10) rfl rfl (.bool false) (by kernel_rfl) (by kernel_rfl) (by kernel_rfl) (fun _ _ _ _ h => h) (by kernel_rfl) (fun w => by kernel_rfl) m0 ?_
      refine rgd_skip 5 (some 11) rfl rfl (by kernel_rfl) (by kernel_rfl) (by kernel_rfl) (fun _ _ _ _ h => h) (by kernel_rfl) m0 ?_
      refine rgd_skip 6 (some 12) rfl rfl (by kernel_rfl) (by kernel_rfl) (by kernel_rfl) (fun _ _ _ _ h => h) (by kernel_rfl) m0 ?_
      refine rgd_skip 7 (some 13) rfl rfl (by kernel_rfl) (by kernel_rfl) (by kernel_rfl) (fun _ _ _ _ h => h) (by kernel_rfl) m0 ?_
      refine rgd_skip 8 (some 14) rfl rfl (by kernel_rfl) (by kernel_rfl) (by kernel_rfl) (fun _ _ _ _ h => h) (by kernel_rfl) m0 ?_
      refine rgd_skip 9 (some 15) rfl rfl (by kernel_rfl) (by kernel_rfl) (by kernel_rfl) (fun _ _ _ _ h => h) (by kernel_rfl) m0 ?_
      refine rgd_skip 10 (some 16) rfl rfl (by kernel_rfl) (by kernel_rfl) (by kernel_rfl) (fun _ _ _ _ h => h) (by kernel_rfl) m0 ?_
      refine rgd_skip 11 (some 17) rfl rfl (by kernel_rfl) (by kernel_rfl) (by kernel_rfl) (fun _ _ _ _ h => h) (by kernel_rfl) m0 ?_
      refine rgd_pure 12 (some 18) rfl rfl (.bool false) (by kernel_rfl) (by kernel_rfl) (by kernel_rfl) (fun _ _ _ _ h => h) (by kernel_rfl) (fun w => by kernel_rfl) m0 ?_
      have KE : K2 { tmps := #[.slice q l.length c, .agg x.cells.toArray, undef, .pointer (some ⟨g3, 0, none⟩), .slice none 0 0, .int .i64 (k : Int), .int .i64 (k : Int), .slice q l.length c, .int .i64 (l.length : Int), .bool false, .bool false, undef, undef, undef, undef, undef, undef, undef, .bool false, u19, u20, undef, undef, undef, undef, undef], defers := [] } wr.drew := by
        refine hK2 _ _ ?_
        clear hK2 m0
        obtain ⟨c0, c1, c2, c3, c4, c5⟩ := wr_cells XD.out
        simp only [Nat.zero_add] at c0 c1 c2 c3 c4 c5
        have TL := Lib.hid (TAIL.out wr.drew k (thenBelow B1.out BD.out) hk HA.out (fun h => absurd h hkl))
        clear TAIL CMP HXC HA R1 XD
        obtain ⟨r, n0, t, d, f, tx⟩ := x
        simp only [Wr.cells] at c0 c1 c2 c3 c4 c5 TL ⊢
        go_wp2_with fail
        refine TL.out.mono ?_
        rintro e w5 ⟨v, rfl, h1, h2⟩
        have F1 := Lib.hid h1; have F2 := Lib.hid h2
        clear h1 h2 TL
        go_wp2
        go_ret
        exact ⟨v, rfl, F1.out, F2.out⟩
      exact wpAnyH_done (by kernel_rfl) (Eq.mp (by kernel_rfl) KE) _
end Go.Proofs.YtjmglgcifekhgaaDoor
/- The contract of utf's Put. -/
namespace Go.Proofs.YtjmglgcifekhgaaDoor
open Go Go.RowKit

/-- a row of another type stays as it is when bytes of the call's own are appended to -/
def Stays (e : TypeId) (w w' : World) : Prop := ∀ (X : Nat) (cs : Array Value) (ty : TypeId) (m : Nat × Nat), w.heap[X]? = some (Obj.cells cs ty m) → ty ≠ e → w'.heap[X]? = some (Obj.cells cs ty m)
theorem stays_of {w w' : World} {B : Nat} {e : TypeId} {v : Value} {n : Nat} {xs : List Value} (hown : w.ownsRow B e 1 v n xs) (hg : w.grownBy w' v.ownBlock) : Stays e w w' := by
  intro X cs ty m hX hne
  have hlt : X < w.heap.size := (Array.getElem?_eq_some_iff.1 hX).1
  rw [hg.block X hlt ?_]
  · exact hX
  · rcases hown.2 with ⟨rfl, _⟩ | ⟨g, cap, cur, rfl, _, q3, _⟩
    · intro h; cases h
    · intro h
      have hXg : X = g := by simpa [Value.ownBlock] using h
      subst hXg
      rw [q3] at hX
      simp only [Option.some.injEq, Obj.cells.injEq] at hX
      exact hne hX.2.1.symm

section
variable {P : Program} {t e : TypeId} {ops : Array Oper} {rest : List Oper} {o : Oper} {a : Act} {Q : Exit → Act → World → Prop}
theorem wpList_byteX (U : U8 P t e) (w : World) (hg : o.guard = none) (s x : Operand) (ho : o.op = .call { callee := .builtin .append, args := #[s, x], argTypes := #[t, t] })
    (B n : Nat) (l : List UInt8) (v : Value) (hs : a.eval s = v) (hown : w.ownsRow B e 1 v n (bys l)) (X : Int) (b : UInt8) (hx : a.eval x = .slice (some ⟨w.heap.size, 0, none⟩) 1 1) (hX : X = (b.toNat : Int))
    (hlen : n + 1 ≤ 140737488355328) (hB : B ≤ w.heap.size)
    (h : ∀ v' w', w'.ownsRow B e 1 v' (n + 1) (bys (l ++ [b])) → Below B w w' → Stays e w w' → wpList P ops Q rest (a.put o.dst v') w') : wpList P ops Q (o :: rest) a (w.alloc (.cells #[.int .u8 X] e)) := by
  obtain ⟨i0, hi, hz0, hz1, hz2⟩ := info_parts U.info
  refine wpList_append_own _ hg s x t ho B e i0 (.int .u8 0) 1 1 U.slice hi hz0 hz1 hz2 rfl (by decide) v n (bys l) hs (hown.alloc _) ⟨w.heap.size, 0, none⟩ 1 1 (bys [b]) hx rfl ?_ (bys_one _) (by unfold maxLen; omega) (by omega) (by simp; omega) ?_
  · intro j u hu
    match j, hu with
    | 0, hu => simp [bys] at hu; subst hu; subst hX; simp [Addr.add]
  · intro v' w' h1 h2 _
    refine h v' w' (by rw [bys_append]; exact h1) ?_ ?_
    · exact ((Below.refl B w).alloc hB _).grown h2 (by simp; omega) (fun k hk => (hown.lt k hk).1)
    · intro X cs ty m hX hne
      refine stays_of (hown.alloc _) h2 X cs ty m ?_ hne
      rw [((Below.refl w.heap.size w).alloc (Nat.le_refl _) _).block X (Array.getElem?_eq_some_iff.1 hX).1]
      exact hX
theorem step_byteX (U : U8 P t e) {w : World} {K : Act → World → Prop} {E : Prop} {Q : Exit → Act → World → Prop} (hg : o.guard = none) (s x : Operand) (ho : o.op = .call { callee := .builtin .append, args := #[s, x], argTypes := #[t, t] })
    (B n : Nat) (l : List UInt8) (v : Value) (hs : a.eval s = v) (hown : w.ownsRow B e 1 v n (bys l)) (ad : Addr) (b : UInt8) (hx : a.eval x = .slice (some ad) 1 1) (hX : w.cell? ad = some (.int .u8 (b.toNat : Int)))
    (hlen : n + 1 ≤ 140737488355328) (hB : B ≤ w.heap.size)
    (h : ∀ v' w', w'.ownsRow B e 1 v' (n + 1) (bys (l ++ [b])) → Below B w w' → Stays e w w' → K (a.put o.dst v') w') :
    if Region.wanted o (yielded ops a.tmps) = true then Oper.wp P o a w K Q else E := by
  obtain ⟨i0, hi, hz0, hz1, hz2⟩ := info_parts U.info
  have hnews : ∀ j u, (bys [b])[j]? = some u → w.cell? (ad.add j) = some u := by
    intro j u hu
    match j, hu with
    | 0, hu => simp [bys] at hu; subst hu; rw [show ad.add 0 = ad from by cases ad; simp [Addr.add]]; exact hX
  have hw : Region.wanted o (yielded ops a.tmps) = true := by simp [Region.wanted, hg]
  rw [if_pos hw]
  obtain ⟨v', w', hrun, h1, h2, _⟩ := run_append_own (P := P) w B t o.type e i0 (.int .u8 0) 1 1 U.slice hi hz0 hz1 hz2 rfl (by decide) v n (bys l) hown ad 1 1 (bys [b]) rfl hnews (bys_one _) (by unfold maxLen; omega) (by omega) hB
  unfold Oper.wp
  simp [execOp, ho, resolve, invoke, builtin, hs, hx, hrun, Result.andThen]
  exact h v' w' (by rw [bys_append]; exact h1) ((Below.refl B w).grown h2 hB (fun k hk => (hown.lt k hk).1)) (stays_of hown h2)
end

namespace Utf
def tailB (r : Nat) (k i : Nat) : UInt8 := UInt8.ofNat (128 + r / 64 ^ (k - 1 - i) % 64)
def encK (r k : Nat) : List UInt8 := UInt8.ofNat (lead k + r / 64 ^ k) :: (List.range k).map (tailB r k)
def enc (r : Int) : List UInt8 := if sg r then encK r.toNat (sh r) else []
end Utf

theorem shapes_three {w : World} (h : Shapes w) (k : Nat) (hk : k ≤ 3) : ∃ L : Int, w.cell? ⟨0, k * 3, none⟩ = some (.int .i64 L) ∧ w.cell? ⟨0, k * 3 + 1, none⟩ = some (.int .i64 (Utf.lead k : Nat)) ∧ w.cell? ⟨0, k * 3 + 2, none⟩ = some (.int .i64 k) := by
  match k, hk with
  | 0, _ => exact ⟨_, h.c0, h.c1, h.c2⟩
  | 1, _ => exact ⟨_, h.c3, h.c4, h.c5⟩
  | 2, _ => exact ⟨_, h.c6, h.c7, h.c8⟩
  | 3, _ => exact ⟨_, h.c9, h.c10, h.c11⟩

theorem utfOwn_later {w w' : World} {B : Nat} {ty : TypeId} {n : Nat} {v : Value} {xs : List Value} (h : w.ownsRow B ty 1 v n xs) (hb : Below w.heap.size w w') : w'.ownsRow B ty 1 v n xs := by
  refine ⟨h.1, ?_⟩
  rcases h.2 with q | ⟨g, cap, cur, q1, q2, q3, q4⟩
  · exact .inl q
  · exact .inr ⟨g, cap, cur, q1, q2, by rw [hb.block g (Array.getElem?_eq_some_iff.1 q3).1]; exact q3, q4⟩
theorem shr_i64 (P : Program) (m k : Nat) (hk : k ≤ 3) (w : World) : Sem.run P (Op.shift BinOp.shr IntKind.i64 (m : Int) IntKind.i64 (IntKind.i64.wrap (6 * (k : Int)))) w = .ok (.int .i64 ((m / 64 ^ k : Nat) : Int)) w := by
  have e1 : IntKind.i64.wrap (6 * (k : Int)) = ((6 * k : Nat) : Int) := by rw [IntWalk.i64_in _ (by omega)]; omega
  rw [e1]
  unfold Op.shift
  rw [if_neg (by omega)]
  have e2 : min (6 * k) IntKind.i64.bits = 6 * k := by simp [IntKind.bits]; omega
  simp only [Int.toNat_natCast, e2]
  rw [Sem.run_pure]
  have : (m : Int).fdiv (2 ^ (6 * k)) = ((m / 64 ^ k : Nat) : Int) := by
    rw [show ((2 : Int) ^ (6 * k)) = ((64 ^ k : Nat) : Int) from by rw [Int.pow_mul]; simp, Int.fdiv_eq_ediv_of_nonneg _ (Int.natCast_nonneg _)]; simp
  simp only [this]
theorem lead_or (k q : Nat) (hk : k = 0 ∧ q < 192 ∨ k = 1 ∧ q < 32 ∨ k = 2 ∧ q < 16 ∨ k = 3 ∧ q < 8) : Utf.lead k ||| q = Utf.lead k + q := by
  unfold Utf.lead
  rcases hk with ⟨rfl, h⟩ | ⟨rfl, h⟩ | ⟨rfl, h⟩ | ⟨rfl, h⟩
  · simp
  · exact nat_join 5 192 q (by decide) (by simpa using h)
  · exact nat_join 4 224 q (by decide) (by simpa using h)
  · exact nat_join 3 240 q (by decide) (by simpa using h)
theorem lead_part (r : Nat) (hr : r ≤ 1114111) : Utf.sh (r : Int) = 0 ∧ r / 64 ^ Utf.sh (r : Int) < 192 ∨ Utf.sh (r : Int) = 1 ∧ r / 64 ^ Utf.sh (r : Int) < 32 ∨ Utf.sh (r : Int) = 2 ∧ r / 64 ^ Utf.sh (r : Int) < 16 ∨ Utf.sh (r : Int) = 3 ∧ r / 64 ^ Utf.sh (r : Int) < 8 := by
  have h : Utf.sh (r : Int) = 0 ∧ r ≤ 127 ∨ Utf.sh (r : Int) = 1 ∧ 127 < r ∧ r ≤ 2047 ∨ Utf.sh (r : Int) = 2 ∧ 2047 < r ∧ r ≤ 65535 ∨ Utf.sh (r : Int) = 3 ∧ 65535 < r := by
    unfold Utf.sh; (repeat' split) <;> omega
  rcases h with ⟨e, h⟩ | ⟨e, h⟩ | ⟨e, h⟩ | ⟨e, h⟩ <;> rw [e] <;> simp <;> omega
theorem lead_sum (k q : Nat) (hk : k = 0 ∧ q < 192 ∨ k = 1 ∧ q < 32 ∨ k = 2 ∧ q < 16 ∨ k = 3 ∧ q < 8) : Utf.lead k + q < 256 := by
  unfold Utf.lead
  rcases hk with ⟨rfl, h⟩ | ⟨rfl, h⟩ | ⟨rfl, h⟩ | ⟨rfl, h⟩ <;> simp <;> omega
theorem encK_take0 (m k : Nat) : (Utf.encK m k).take (1 + 0) = [UInt8.ofNat (Utf.lead k + m / 64 ^ k)] := rfl
theorem encK_taken (m k j : Nat) (hj : j < k) : (Utf.encK m k).take (1 + (j + 1)) = (Utf.encK m k).take (1 + j) ++ [Utf.tailB m k j] := by
  have hl : 1 + j < (Utf.encK m k).length := by simp [Utf.encK]; omega
  rw [show 1 + (j + 1) = (1 + j) + 1 from by omega, List.take_succ_eq_append_getElem hl]
  congr 2
  simp [Utf.encK, show 1 + j = j + 1 from by omega]
theorem or128 (t : Nat) (h : t < 64) : bits .or .i64 128 (t : Int) = ((128 + t : Nat) : Int) := by
  rw [show (128 : Int) = ((128 : Nat) : Int) from rfl, i64_or_nat _ _ (by omega) (by omega), nat_join 6 128 t (by decide) (by simpa using h)]
theorem and63 (q : Nat) (h : q ≤ 1114111) : bits .and .i64 (q : Int) 63 = ((q % 64 : Nat) : Int) := by
  rw [show (63 : Int) = ((63 : Nat) : Int) from rfl, i64_and_nat _ _ (by omega) (by omega), show (63 : Nat) = 2 ^ 6 - 1 from rfl, Nat.and_two_pow_sub_one_eq_mod]

end Go.Proofs.YtjmglgcifekhgaaDoor
/- What was put is found: the plain part. -/
namespace Go.Proofs.YtjmglgcifekhgaaDoor
open Go Go.RowKit
namespace Utf
theorem gt_arr (l : List UInt8) (i : Nat) : gt ⟨l.toArray⟩ i = (l.getD i 0).toNat := rfl
theorem gt_behind (b m : List UInt8) (i : Nat) : gt ⟨(b ++ m).toArray⟩ (b.length + i) = (m.getD i 0).toNat := by
  rw [gt_arr, List.getD, List.getElem?_append_right (by omega), show b.length + i - b.length = i from by omega]; rfl
theorem encK_len (r k : Nat) : (encK r k).length = k + 1 := by simp [encK]
theorem encK_head (r k : Nat) : (encK r k).getD 0 0 = UInt8.ofNat (lead k + r / 64 ^ k) := rfl
theorem encK_tail (r k i : Nat) (h : i < k) : (encK r k).getD (i + 1) 0 = tailB r k i := by
  simp [encK, List.getD, h]
theorem tailB_nat (r k i : Nat) : (tailB r k i).toNat = 128 + r / 64 ^ (k - 1 - i) % 64 := by
  unfold tailB
  rw [UInt8.toNat_ofNat', Nat.mod_eq_of_lt]
  omega
theorem head_is (r : Nat) (hr : r ≤ 1114111) : (UInt8.ofNat (lead (sh r) + r / 64 ^ (sh r))).toNat = lead (sh r) + r / 64 ^ (sh r) ∧ led (lead (sh r) + r / 64 ^ (sh r)) = sh r := by
  have h : sh (r : Int) = 0 ∧ r ≤ 127 ∨ sh (r : Int) = 1 ∧ 127 < r ∧ r ≤ 2047 ∨ sh (r : Int) = 2 ∧ 2047 < r ∧ r ≤ 65535 ∨ sh (r : Int) = 3 ∧ 65535 < r := by
    unfold sh; (repeat' split) <;> omega
  rw [UInt8.toNat_ofNat']
  rcases h with ⟨e, h⟩ | ⟨e, h⟩ | ⟨e, h⟩ | ⟨e, h⟩ <;> rw [e] <;> unfold lead led <;> simp <;> constructor <;> (repeat' split) <;> omega
theorem found (b : List UInt8) (r : Int) (h : sg r = true) : nx ⟨(b ++ enc r).toArray⟩ b.length = (r, sh r + 1) := by
  have hr : 0 ≤ r ∧ r ≤ 1114111 := by unfold sg at h; simp only [decide_eq_true_eq] at h; omega
  obtain ⟨m, rfl⟩ := Int.eq_ofNat_of_zero_le hr.1
  have he : enc (m : Int) = encK m (sh (m : Int)) := by unfold enc; rw [h]; rfl
  rw [he]
  obtain ⟨h1, h2⟩ := head_is m (by omega)
  have hg : gt ⟨(b ++ encK m (sh (m : Int))).toArray⟩ b.length = lead (sh (m : Int)) + m / 64 ^ (sh (m : Int)) := by
    have := gt_behind b (encK m (sh (m : Int))) 0
    rw [Nat.add_zero] at this
    rw [this, encK_head, h1]
  have hi : ∀ i, i < sh (m : Int) → gt ⟨(b ++ encK m (sh (m : Int))).toArray⟩ (b.length + 1 + i) = 128 + m / 64 ^ (sh (m : Int) - 1 - i) % 64 := fun i hi => by
    rw [show b.length + 1 + i = b.length + (i + 1) from by omega, gt_behind, encK_tail _ _ _ hi, tailB_nat]
  have hsz : (⟨(b ++ encK m (sh (m : Int))).toArray⟩ : ByteArray).size = b.length + (sh (m : Int) + 1) := by
    show (b ++ encK m (sh (m : Int))).toArray.size = _
    simp [encK_len]
  have hacc : acc ⟨(b ++ encK m (sh (m : Int))).toArray⟩ b.length (sh (m : Int)) = m := by
    have hle := sh_le (m : Int)
    generalize hS : (⟨(b ++ encK m (sh (m : Int))).toArray⟩ : ByteArray) = S at hg hi ⊢
    generalize sh (m : Int) = k at hg hi hle h2 ⊢
    have h0 : acc S b.length 0 = m / 64 ^ k := by simp only [acc]; rw [hg, h2]; exact Nat.add_sub_cancel_left _ _
    match k, hle with
    | 0, _ => rw [h0]; simp
    | 1, _ =>
      have a0 := hi 0 (by omega)
      simp only [acc] at h0 ⊢
      rw [h0, a0]
      simp
      omega
    | 2, _ =>
      have a0 := hi 0 (by omega); have a1 := hi 1 (by omega)
      simp only [acc] at h0 ⊢
      rw [h0, a0, a1]
      simp
      omega
    | 3, _ =>
      have a0 := hi 0 (by omega); have a1 := hi 1 (by omega); have a2 := hi 2 (by omega)
      simp only [acc] at h0 ⊢
      rw [h0, a0, a1, a2]
      simp
      omega
  have hok : ok ⟨(b ++ encK m (sh (m : Int))).toArray⟩ b.length := by
    unfold ok
    rw [hg, h2, hacc, hsz]
    refine ⟨by omega, fun j hj => ?_, h, rfl⟩
    unfold cont
    rw [hi j hj]
    omega
  rw [nx_yes hok, hg, h2, hacc]
end Utf
namespace Utf
/-- the number that the document tries with k bytes behind the first -/
def rk (s : ByteArray) (p : Nat) : Nat → Nat
  | 0 => gt s p
  | 1 => gt s p % 32 * 64 + gt s (p + 1) % 64
  | 2 => gt s p % 16 * 4096 + gt s (p + 1) % 64 * 64 + gt s (p + 2) % 64
  | _ => gt s p % 8 * 262144 + gt s (p + 1) % 64 * 4096 + gt s (p + 2) % 64 * 64 + gt s (p + 3) % 64
/-- its bytes are those that stand there -/
def mt (s : ByteArray) (p k : Nat) : Prop := p + k + 1 ≤ s.size ∧ (enc (rk s p k : Nat)).length = k + 1 ∧ ∀ i, i ≤ k → ((enc (rk s p k : Nat)).getD i 0).toNat = gt s (p + i)
theorem sh_cases (r : Nat) : sh (r : Int) = 0 ∧ r ≤ 127 ∨ sh (r : Int) = 1 ∧ 127 < r ∧ r ≤ 2047 ∨ sh (r : Int) = 2 ∧ 2047 < r ∧ r ≤ 65535 ∨ sh (r : Int) = 3 ∧ 65535 < r := by
  unfold sh; (repeat' split) <;> omega
theorem led_cases (f : Nat) : led f = 0 ∧ f < 192 ∨ led f = 1 ∧ 192 ≤ f ∧ f < 224 ∨ led f = 2 ∧ 224 ≤ f ∧ f < 240 ∨ led f = 3 ∧ 240 ≤ f := by
  unfold led; (repeat' split) <;> omega
theorem enc_get0 (m : Nat) (h : sg (m : Int) = true) : ((enc (m : Int)).getD 0 0).toNat = lead (sh (m : Int)) + m / 64 ^ sh (m : Int) := by
  have hr : m ≤ 1114111 := by unfold sg at h; simp only [decide_eq_true_eq] at h; omega
  have he : enc (m : Int) = encK m (sh (m : Int)) := by unfold enc; rw [h]; rfl
  rw [he, encK_head, (head_is m hr).1]
theorem enc_getS (m i : Nat) (h : sg (m : Int) = true) (hi : i < sh (m : Int)) : ((enc (m : Int)).getD (i + 1) 0).toNat = 128 + m / 64 ^ (sh (m : Int) - 1 - i) % 64 := by
  have he : enc (m : Int) = encK m (sh (m : Int)) := by unfold enc; rw [h]; rfl
  rw [he, encK_tail _ _ _ hi, tailB_nat]
theorem enc_lenS (m : Nat) (h : sg (m : Int) = true) : (enc (m : Int)).length = sh (m : Int) + 1 := by
  have he : enc (m : Int) = encK m (sh (m : Int)) := by unfold enc; rw [h]; rfl
  rw [he, encK_len]
theorem acc_rk (s : ByteArray) (p : Nat) (h : ok s p) : acc s p (led (gt s p)) = rk s p (led (gt s p)) := by
  have hg := gt_lt s p
  have h4 := h.2.2.1
  unfold sg at h4
  simp only [decide_eq_true_eq] at h4
  rcases led_cases (gt s p) with ⟨e, b⟩ | ⟨e, b⟩ | ⟨e, b⟩ | ⟨e, b⟩
  · rw [e]
    show gt s p - lead (led (gt s p)) = gt s p
    rw [e]; simp [lead]
  · have a : acc s p 1 = (gt s p - 192) * 64 + gt s (p + 1) % 64 := by simp only [acc]; rw [e]; rfl
    rw [e, a]
    simp only [rk]
    omega
  · have a : acc s p 2 = ((gt s p - 224) * 64 + gt s (p + 1) % 64) * 64 + gt s (p + 2) % 64 := by simp only [acc]; rw [e]; rfl
    rw [e, a]
    simp only [rk]
    omega
  · have a : acc s p 3 = (((gt s p - 240) * 64 + gt s (p + 1) % 64) * 64 + gt s (p + 2) % 64) * 64 + gt s (p + 3) % 64 := by simp only [acc]; rw [e]; rfl
    rw [e, a] at h4
    rw [e, a]
    simp only [rk]
    omega
/-- where a sign begins, the document's way finds it with just so many bytes -/
theorem mt_of_ok (s : ByteArray) (p : Nat) (h : ok s p) : mt s p (led (gt s p)) := by
  have ha := acc_rk s p h
  have hg := gt_lt s p
  have hb0 : acc s p (led (gt s p)) ≤ 1114111 := by
    have h5 := h.2.2.1
    unfold sg at h5
    simp only [decide_eq_true_eq] at h5
    omega
  obtain ⟨h1, h2, h3, h4⟩ := h
  rw [ha] at h3 h4
  have hl := enc_lenS _ h3
  have e0 := enc_get0 _ h3
  have eS := fun i hi => enc_getS _ i h3 hi
  rw [h4] at hl e0 eS
  refine ⟨h1, hl, fun i hi => ?_⟩
  clear hl h3 h4 ha
  rcases led_cases (gt s p) with ⟨e, b⟩ | ⟨e, b⟩ | ⟨e, b⟩ | ⟨e, b⟩ <;> rw [e] at h1 h2 e0 eS hi hb0 ⊢
  · obtain rfl : i = 0 := by omega
    rw [e0]; simp [lead, rk]
  · have c1 := h2 0 (by omega)
    simp only [cont, Nat.add_zero] at c1
    match i, hi with
    | 0, _ => rw [e0]; simp only [lead, rk, Nat.add_zero]; simp; omega
    | 1, _ => rw [eS 0 (by omega)]; simp only [rk]; simp; omega
  · have c1 := h2 0 (by omega); have c2 := h2 1 (by omega)
    simp only [cont, Nat.add_zero, show p + 1 + 1 = p + 2 from rfl] at c1 c2
    match i, hi with
    | 0, _ => rw [e0]; simp only [lead, rk, Nat.add_zero]; simp; omega
    | 1, _ => rw [eS 0 (by omega)]; simp only [rk]; simp; omega
    | 2, _ => rw [eS 1 (by omega)]; simp only [rk]; simp; omega
  · have c1 := h2 0 (by omega); have c2 := h2 1 (by omega); have c3 := h2 2 (by omega)
    simp only [cont, Nat.add_zero, show p + 1 + 1 = p + 2 from rfl, show p + 1 + 2 = p + 3 from rfl] at c1 c2 c3
    have a : acc s p 3 = (((gt s p - 240) * 64 + gt s (p + 1) % 64) * 64 + gt s (p + 2) % 64) * 64 + gt s (p + 3) % 64 := by simp only [acc]; rw [e]; rfl
    rw [a] at hb0
    have hb : gt s p ≤ 247 := by omega
    match i, hi with
    | 0, _ => rw [e0]; simp only [lead, rk, Nat.add_zero]; simp; omega
    | 1, _ => rw [eS 0 (by omega)]; simp only [rk]; simp; omega
    | 2, _ => rw [eS 1 (by omega)]; simp only [rk]; simp; omega
    | 3, _ => rw [eS 2 (by omega)]; simp only [rk]; simp; omega
/-- what the document's way finds is what nx finds -/
theorem ok_of_mt (s : ByteArray) (p k : Nat) (hk : k ≤ 3) (h : mt s p k) : ok s p ∧ led (gt s p) = k ∧ acc s p k = rk s p k := by
  obtain ⟨h1, hl, hb⟩ := h
  obtain ⟨r, hr⟩ : ∃ r, r = rk s p k := ⟨_, rfl⟩
  rw [← hr] at hl hb ⊢
  clear hr
  have hsg : sg (r : Int) = true := by
    refine Classical.byContradiction fun hn => ?_
    have : enc (r : Int) = [] := by unfold enc; rw [if_neg hn]
    rw [this] at hl; simp at hl
  have hrb : r ≤ 1114111 := by unfold sg at hsg; simp only [decide_eq_true_eq] at hsg; omega
  have hsh : sh (r : Int) = k := by have := enc_lenS r hsg; omega
  have e0 := enc_get0 r hsg
  have eS := fun i hi => enc_getS r i hsg hi
  have hhd := (head_is r hrb).2
  rw [hsh] at e0 eS hhd
  have b0 := hb 0 (by omega)
  rw [e0, Nat.add_zero] at b0
  rw [b0] at hhd
  have bS : ∀ i, i < k → gt s (p + 1 + i) = 128 + r / 64 ^ (k - 1 - i) % 64 := fun i hi => by
    rw [← eS i hi, hb (i + 1) (by omega), show p + (i + 1) = p + 1 + i from by omega]
  have hacc : acc s p k = r := by
    have h0 : acc s p 0 = r / 64 ^ k := by simp only [acc]; rw [hhd, ← b0]; exact Nat.add_sub_cancel_left _ _
    rcases (show k = 0 ∨ k = 1 ∨ k = 2 ∨ k = 3 by omega) with rfl | rfl | rfl | rfl
    · rw [h0]; simp
    · have a0 := bS 0 (by omega)
      simp only [acc] at h0 ⊢
      rw [h0, a0]; simp; omega
    · have a0 := bS 0 (by omega); have a1 := bS 1 (by omega)
      simp only [acc] at h0 ⊢
      rw [h0, a0, a1]; simp; omega
    · have a0 := bS 0 (by omega); have a1 := bS 1 (by omega); have a2 := bS 2 (by omega)
      simp only [acc] at h0 ⊢
      rw [h0, a0, a1, a2]; simp; omega
  refine ⟨?_, hhd, hacc⟩
  unfold ok
  rw [hhd, hacc]
  refine ⟨h1, fun j hj => ?_, hsg, hsh⟩
  unfold cont
  rw [bS j hj]
  omega
/-- the document's way: the first length that fits -/
theorem nx_of_mt (s : ByteArray) (p k : Nat) (hk : k ≤ 3) (h : mt s p k) : nx s p = (((rk s p k : Nat) : Int), k + 1) := by
  obtain ⟨h1, h2, h3⟩ := ok_of_mt s p k hk h
  rw [nx_yes h1, h2, h3]
theorem nx_none (s : ByteArray) (p : Nat) (h : ∀ k, k ≤ 3 → p + k + 1 ≤ s.size → ¬ mt s p k) : nx s p = (-1, 1) :=
  nx_no fun hok => h (led (gt s p)) (led_le _) hok.1 (mt_of_ok s p hok)
end Utf
end Go.Proofs.YtjmglgcifekhgaaDoor
/- The contracts of strings.Clone, strings.HasPrefix and utf's Cut. -/
namespace Go.Proofs.YtjmglgcifekhgaaDoor
open Go Go.RowKit

namespace Utf
/-- stepping from q one comes to p -/
def rc (s : ByteArray) (p : Nat) : Nat → Nat → Prop
  | 0, q => q = p
  | f + 1, q => q = p ∨ (q < s.size ∧ rc s p f (q + (nx s q).2))
theorem rc_le {s : ByteArray} {p : Nat} : ∀ (f q : Nat), rc s p f q → q ≤ p
  | 0, q, h => by simp only [rc] at h; omega
  | f + 1, q, h => by
    simp only [rc] at h
    rcases h with h | ⟨_, h⟩
    · omega
    · have := rc_le f _ h; omega
theorem rc_ext {s : ByteArray} {p : Nat} (hp : p < s.size) : ∀ (f q : Nat), rc s p f q → rc s (p + (nx s p).2) (f + 1) q
  | 0, q, h => by
    simp only [rc] at h
    subst h
    exact .inr ⟨hp, rfl⟩
  | f + 1, q, h => by
    have h' := h
    simp only [rc] at h
    rcases h with h | ⟨h1, h2⟩
    · subst h
      exact .inr ⟨hp, .inl rfl⟩
    · exact .inr ⟨h1, rc_ext hp f _ h2⟩
theorem pre_size (s : ByteArray) (p : Nat) (hp : p ≤ s.size) : (s.extract 0 p).size = p := by rw [ByteArray.size_extract]; omega
theorem gt_pre (s : ByteArray) (p i : Nat) (hp : p ≤ s.size) (hi : i < p) : gt (s.extract 0 p) i = gt s i := by
  rw [← gt_at (s.extract 0 p) i (by rw [pre_size s p hp]; exact hi), ← gt_at s i (by omega)]
  rw [ByteArray.getElem_extract]
  simp
theorem acc_pre (s : ByteArray) (p q : Nat) (hp : p ≤ s.size) : ∀ j, q + j < p → acc (s.extract 0 p) q j = acc s q j
  | 0, h => by simp only [acc]; rw [gt_pre s p q hp (by omega)]
  | j + 1, h => by simp only [acc]; rw [acc_pre s p q hp j (by omega), gt_pre s p (q + 1 + j) hp (by omega)]
theorem ok_of (s : ByteArray) (q : Nat) (h : ¬ (nx s q).1 < 0) : ok s q := by
  refine Classical.byContradiction fun hn => h ?_
  rw [nx_no hn]; decide
theorem nx_pre (s : ByteArray) (p q : Nat) (hp : p ≤ s.size) (h : ok s q) (hq : q + (nx s q).2 ≤ p) : nx (s.extract 0 p) q = nx s q := by
  have h2 : (nx s q).2 = led (gt s q) + 1 := by rw [nx_yes h]
  rw [h2] at hq
  have hg := gt_pre s p q hp (by omega)
  have ha := acc_pre s p q hp (led (gt s q)) (by omega)
  have hk : ok (s.extract 0 p) q := by
    unfold ok
    rw [hg, ha, pre_size s p hp]
    refine ⟨by omega, fun j hj => ?_, h.2.2⟩
    have := h.2.1 j hj
    unfold cont at this ⊢
    rw [gt_pre s p (q + 1 + j) hp (by omega)]
    exact this
  rw [nx_yes hk, nx_yes h, hg, ha]
theorem vd_pre (s : ByteArray) (p : Nat) (hp : p ≤ s.size) : ∀ (f q g g' : Nat), rc s p f q → vd s g q = true → s.size ≤ q + g → vd (s.extract 0 p) g' q = true
  | 0, q, g, g', h, _, _ => by
    simp only [rc] at h
    exact vd_end _ _ _ (by rw [pre_size s p hp]; omega)
  | f + 1, q, g, g', h, hv, hg => by
    simp only [rc] at h
    rcases h with h | ⟨h1, h2⟩
    · exact vd_end _ _ _ (by rw [pre_size s p hp]; omega)
    · have hle := rc_le f _ h2
      have hn : ¬ (nx s q).1 < 0 := fun hn => by rw [vd_no s g q h1 hg hn] at hv; cases hv
      have hok := ok_of s q hn
      have hst := nx_step s q h1
      rw [vd_step s g q h1 hg hn] at hv
      have ih := fun g' => vd_pre s p hp f (q + (nx s q).2) (g - 1) g' h2 hv (by omega)
      cases g' with
      | zero => rfl
      | succ g' =>
        rw [vd, nx_pre s p q hp hok hle, if_neg hn, ih g']
        split <;> rfl
theorem valid_pre (s : ByteArray) (p f : Nat) (hp : p ≤ s.size) (h : rc s p f 0) (hv : valid s = true) : valid (s.extract 0 p) = true :=
  vd_pre s p hp f 0 s.size _ h hv (by omega)
/-- where Cut cuts -/
def Cuts (s : ByteArray) (n : Int) (p : Nat) : Prop := p ≤ s.size ∧ (p = 0 ∨ (p : Int) ≤ n) ∧ (∃ f, rc s p f 0) ∧ (p = s.size ∨ n < p + 4)
end Utf

def CutTo (s : ByteArray) (n : Int) (w : World) (e : Ending) (w' : World) : Prop := ∃ p, e = .returned (.string (s.extract 0 p)) ∧ Utf.Cuts s n p ∧ Below w.heap.size w w'

end Go.Proofs.YtjmglgcifekhgaaDoor
/- The contracts of the document's own Sign, Bytes, Put (layer 3). -/
namespace Go.Proofs.YtjmglgcifekhgaaDoor
open Go Go.RowKit

set_option maxHeartbeats 1000000 in
theorem refSign_is (r : Int) (w : World) : Calls Tryd.prog 103 #[.int .i64 r] w fun e w' => e = .returned (.bool (Utf.sg r)) ∧ w = w' := by
  obtain ⟨b, hb⟩ : ∃ b, b = Utf.sg r := ⟨_, rfl⟩
  rw [← hb]
  have key : (r < 0 ∧ b = false) ∨ ((0 ≤ r ∧ r < 55296) ∧ b = true) ∨ ((55296 ≤ r ∧ r ≤ 57343) ∧ b = false) ∨ ((57343 < r ∧ r ≤ 1114111) ∧ b = true) ∨ (1114111 < r ∧ b = false) := by
    rw [hb]; unfold Utf.sg
    simp only [decide_eq_true_eq, decide_eq_false_iff_not]
    omega
  clear hb
  rcases key with ⟨h1, rfl⟩ | ⟨⟨h1, h2⟩, rfl⟩ | ⟨⟨h1, h2⟩, rfl⟩ | ⟨⟨h1, h2⟩, rfl⟩ | ⟨h1, rfl⟩
  all_goals
    go_enter Tryd.func103, Tryd.ntmps103
    go_wp2
    go_ret
    exact ⟨ret_bool (by first | rfl | (simp; done) | (simp; omega)), rfl⟩

namespace Utf
def EncIs (r : Int) (L : List UInt8) : Prop := enc r = L
theorem enc_one (m : Nat) (h : sg (m : Int) = true) (h1 : m ≤ 127) : enc (m : Int) = [UInt8.ofNat m] := by
  unfold enc
  rw [h]
  have e : sh (m : Int) = 0 := by unfold sh; rw [if_pos (by omega)]
  simp [e, encK, lead]
theorem enc_two (m : Nat) (h : sg (m : Int) = true) (h1 : ¬ m ≤ 127) (h2 : m ≤ 2047) : enc (m : Int) = [UInt8.ofNat (192 + m / 64), UInt8.ofNat (128 + m % 64)] := by
  unfold enc
  rw [h]
  have e : sh (m : Int) = 1 := by unfold sh; rw [if_neg (by omega), if_pos (by omega)]
  simp [e, encK, lead, tailB, List.range_succ]
theorem enc_three (m : Nat) (h : sg (m : Int) = true) (h1 : ¬ m ≤ 2047) (h2 : m ≤ 65535) : enc (m : Int) = [UInt8.ofNat (224 + m / 4096), UInt8.ofNat (128 + m / 64 % 64), UInt8.ofNat (128 + m % 64)] := by
  unfold enc
  rw [h]
  have e : sh (m : Int) = 2 := by unfold sh; rw [if_neg (by omega), if_neg (by omega), if_pos (by omega)]
  simp [e, encK, lead, tailB, List.range_succ]
theorem enc_four (m : Nat) (h : sg (m : Int) = true) (h1 : ¬ m ≤ 65535) : enc (m : Int) = [UInt8.ofNat (240 + m / 262144), UInt8.ofNat (128 + m / 4096 % 64), UInt8.ofNat (128 + m / 64 % 64), UInt8.ofNat (128 + m % 64)] := by
  unfold enc
  rw [h]
  have e : sh (m : Int) = 3 := by unfold sh; rw [if_neg (by omega), if_neg (by omega), if_neg (by omega)]
  simp [e, encK, lead, tailB, List.range_succ]
end Utf

theorem byte_nat (n : Nat) (h : n < 256) : ((UInt8.ofNat n).toNat : Int) = (n : Int) := by
  rw [UInt8.toNat_ofNat', Nat.mod_eq_of_lt h]
theorem retOwn_lit {w : World} {L : List UInt8} {cs : Array Value} (hcs : cs.toList = bys L) (hn : 0 < L.length) {e : Ending} (he : e = .returned (.slice (some ⟨w.heap.size, 0, none⟩) L.length L.length)) (hlen : L.length ≤ 1000) :
    RetOwn w 5 L e (w.alloc (.cells cs 5)) := by
  have h := World.ownsRow_lit (base := w.heap.size) (e := 5) (size := 1) w cs L.length (Nat.le_refl _) (by unfold maxLen; omega) (by rw [← Array.length_toList, hcs, bys_length, Nat.mul_one])
  rw [hcs] at h
  exact ⟨_, he, h, (Below.refl _ _).alloc (Nat.le_refl _) _⟩

set_option maxHeartbeats 2000000 in
set_option maxRecDepth 10000000 in
theorem refBytes3 (r : Int) (w : World) : Calls Tryd.prog 98 #[.int .i64 r] w (RetOwn w 5 (Utf.enc r)) := by
  have hs := refSign_is r w
  cases hsv : Utf.sg r with
  | false =>
    have hE : Hid (Utf.enc r = []) := by unfold Utf.enc; rw [hsv]; rfl
    rw [hsv] at hs
    clear hsv
    go_enter Tryd.func98, Tryd.ntmps98
    go_wp2_with fail
    refine hs.mono ?_
    rintro e w' ⟨rfl, rfl⟩
    go_wp2_with fail
    go_ret
    rw [hE.out]
    exact ⟨_, rfl, World.ownsRow_nil _ _ _ _, Below.refl _ _⟩
  | true =>
    rw [hsv] at hs
    have hr : 0 ≤ r ∧ r ≤ 1114111 := by unfold Utf.sg at hsv; simp only [decide_eq_true_eq] at hsv; omega
    obtain ⟨hr1, hr2⟩ := hr
    obtain ⟨m, rfl⟩ := Int.eq_ofNat_of_zero_le hr1
    by_cases h1 : m ≤ 127
    · have HS := Lib.hid hsv
      clear hsv
      go_enter Tryd.func98, Tryd.ntmps98
      go_wp2_with fail
      refine hs.mono ?_
      rintro e w' ⟨rfl, rfl⟩
      go_wp2_with fail
      go_ret
      rw [Utf.enc_one m HS.out (by omega)]
      exact retOwn_lit (by simp [bys]; omega) (by simp) rfl (by simp)
    · by_cases h2 : m ≤ 2047
      · have HS := Lib.hid hsv
        clear hsv
        go_enter Tryd.func98, Tryd.ntmps98
        go_wp2_with fail
        refine hs.mono ?_
        rintro e w' ⟨rfl, rfl⟩
        go_wp2_with fail
        go_ret
        rw [Utf.enc_two m HS.out (by omega) (by omega)]
        exact retOwn_lit (by simp [bys]; omega) (by simp) rfl (by simp)
      · by_cases h3 : m ≤ 65535
        · have HS := Lib.hid hsv
          clear hsv
          go_enter Tryd.func98, Tryd.ntmps98
          go_wp2_with fail
          refine hs.mono ?_
          rintro e w' ⟨rfl, rfl⟩
          go_wp2_with fail
          go_ret
          rw [Utf.enc_three m HS.out (by omega) (by omega)]
          exact retOwn_lit (by simp [bys]; omega) (by simp) rfl (by simp)
        · have HS := Lib.hid hsv
          clear hsv
          go_enter Tryd.func98, Tryd.ntmps98
          go_wp2_with fail
          refine hs.mono ?_
          rintro e w' ⟨rfl, rfl⟩
          go_wp2_with fail
          go_ret
          rw [Utf.enc_four m HS.out (by omega)]
          exact retOwn_lit (by simp [bys]; omega) (by simp) rfl (by simp)

theorem value_is (c : Nat) (w : World) (h : c < 256) : Calls Tryd.prog 97 #[.int .u8 c] w fun e w' => e = .returned (.int .i64 ((c % 64 : Nat) : Int)) ∧ w = w' := by
  go_enter Tryd.func97, Tryd.ntmps97
  go_wp2
  go_ret
  exact ⟨ret_intU (by first | rfl | (simp; done) | (simp; omega)), rfl⟩

theorem refNext_out (s : ByteArray) (at_ : Int) (w : World) (h : at_ < 0 ∨ (s.size : Int) ≤ at_) : Calls Tryd.prog 91 #[.string s, .int .i64 at_] w fun e w' => e = .returned (.tuple #[.int .i64 (-1), .int .i64 0]) ∧ w = w' := by
  rcases h with h | h
  · go_enter Tryd.func91, Tryd.ntmps91
    go_wp2
    go_ret2
    exact ⟨rfl, rfl⟩
  · by_cases h0 : at_ < 0
    all_goals
      go_enter Tryd.func91, Tryd.ntmps91
      go_wp2
      go_ret2
      exact ⟨rfl, rfl⟩

namespace Utf
theorem gt_ext (s : ByteArray) (p i : Nat) (h : p + i < s.size) : gt (s.extract p s.size) i = gt s (p + i) := by
  have hs : (s.extract p s.size).size = s.size - p := by rw [ByteArray.size_extract]; omega
  rw [← gt_at (s.extract p s.size) i (by omega), ← gt_at s (p + i) h, ByteArray.getElem_extract]
theorem mt_test (s S : ByteArray) (p k : Nat) (hfit : p + k + 1 ≤ s.size) (hS : S.size = s.size - p) (hG : ∀ i, p + i < s.size → gt S i = gt s (p + i)) :
    (enc (rk s p k : Nat) == (S.extract 0 (k + 1)).toList) = true ↔ mt s p k := by
  rw [beq_iff_eq, Lib.toList_data]
  have hz : (S.extract 0 (k + 1)).size = k + 1 := pre_size S (k + 1) (by omega)
  have hl : (S.extract 0 (k + 1)).data.toList.length = k + 1 := by rw [Array.length_toList]; exact hz
  have hg : ∀ i, i ≤ k → ((S.extract 0 (k + 1)).data.toList.getD i 0).toNat = gt s (p + i) := fun i hi => by
    rw [← hG i (by omega), ← gt_pre S (k + 1) i (by omega) (by omega)]; rfl
  generalize (S.extract 0 (k + 1)).data.toList = T at hl hg
  unfold mt
  constructor
  · intro e
    rw [e]
    exact ⟨hfit, hl, hg⟩
  · intro ⟨_, h1, h2⟩
    refine List.ext_getElem (by rw [h1, hl]) fun i i1 i2 => ?_
    have a := h2 i (by omega); have b := hg i (by omega)
    rw [List.getD, List.getElem?_eq_getElem i1, Option.getD_some] at a
    rw [List.getD, List.getElem?_eq_getElem i2, Option.getD_some] at b
    exact UInt8.toNat_inj.1 (a.trans b.symm)
end Utf
def RetN (w : World) (x : Int × Nat) (e : Ending) (w' : World) : Prop := e = .returned (.tuple #[.int .i64 x.1, .int .i64 (x.2 : Nat)]) ∧ Below w.heap.size w w'

theorem value_q (c : Nat) (w : World) (h : c < 256) : Calls Tryd.prog 97 #[.int .u8 c] w fun e w' => e = .returned (.int .i64 ((c % 64 : Nat) : Int)) ∧ w' = w :=
  (value_is c w h).mono fun _ _ ⟨a, b⟩ => ⟨a, b.symm⟩
theorem below_drewN {B : Nat} {a w : World} (h : Below B a w) (n : Nat) : Below B a (w.drewN n) := ⟨h.os, h.tape, h.output, h.size, h.block⟩
/-- the value of a byte, whichever -/
def ValQ (w : World) : Prop := ∀ (c : Nat) (W : World), c < 256 → Calls Tryd.prog 97 #[.int .u8 c] W fun e w' => e = .returned (.int .i64 ((c % 64 : Nat) : Int)) ∧ w' = W
set_option maxHeartbeats 4000000 in
set_option maxRecDepth 1000000 in
theorem refNext_in (s : ByteArray) (p : Nat) (w : World) (h : p < s.size) (hs : s.size ≤ 140737488351232) :
    Calls Tryd.prog 91 #[.string s, .int .i64 p] w (RetN w (Utf.nx s p)) := by
  have h' : (p : Int) < s.size := by omega
  have hsz : (s.extract p s.size).size = s.size - p := by rw [ByteArray.size_extract]; omega
  have hgx := fun i h => Utf.gt_ext s p i h
  obtain ⟨X, hX⟩ : ∃ X, X = Utf.nx s p := ⟨_, rfl⟩
  rw [← hX]
  have HX : Hid (X = Utf.nx s p) := hX
  clear hX
  have d0 : decide ((p : Int) < 0) = false := by simp
  have d1 : decide (s.size ≤ p) = false := by simp; omega
  go_enter Tryd.func91, Tryd.ntmps91
  go_wp2
  generalize s.extract p s.size = S at hsz hgx ⊢
  have HG := Lib.hid hgx
  have TST := Lib.hid (fun k h => Utf.mt_test s S p k h hsz hgx)
  clear hgx
  go_loopw [21] (fun i wr => ∃ k : Nat, k ≤ 4 ∧ i = .int .i64 k ∧ Below w.heap.size w wr ∧ ∀ j, j < k → ¬ Utf.mt s p j) (fun i _ => 4 - (intOf i).toNat)
  case atStart => exact ⟨0, Nat.zero_le _, rfl, Below.refl _ _, fun j hj => by omega⟩
  case round =>
    obtain ⟨k, hk, rfl, hb, hno⟩ := hrel
    have NO := Lib.hid hno; have B0 := Lib.hid hb
    clear hno hb
    by_cases hk4 : k = 4
    · subst hk4
      have HN : Hid (Utf.nx s p = (-1, 1)) := Utf.nx_none s p fun j hj _ => NO.out j (by omega)
      go_wp2
      go_ret2
      exact ⟨by rw [HX.out, HN.out]; rfl, B0.out⟩
    · by_cases hfit : p + k + 1 ≤ s.size
      · have hE : ∃ E, E = Utf.enc (Utf.rk s p k : Nat) := ⟨_, rfl⟩
        obtain ⟨E, hE⟩ := hE
        obtain ⟨r, hr⟩ : ∃ r, r = Utf.rk s p k := ⟨_, rfl⟩
        have BY : Hid (∀ w', Calls Tryd.prog 98 #[.int .i64 r] w' (RetOwn w' 5 E)) := by
          rw [hE, ← hr]; exact refBytes3 (r : Int)
        have TT : Hid ((E == (S.extract 0 (k + 1)).toList) = true ↔ Utf.mt s p k) := by rw [hE]; exact TST.out k hfit
        have NM : Hid (Utf.mt s p k → X = ((r : Int), k + 1)) := fun hm => by rw [HX.out, Utf.nx_of_mt s p k (by omega) hm, hr]
        have NN : Hid (¬ Utf.mt s p k → ∀ j, j < k + 1 → ¬ Utf.mt s p j) := fun hm j hj => by
          rcases Nat.lt_or_ge j k with h1 | h1
          · exact NO.out j h1
          · obtain rfl : j = k := by omega
            exact hm
        have HR := Lib.hid hr
        clear hE hr TST NO
        have g0 := Utf.gt_at S 0 (by omega)
        rw [HG.out 0 (by omega), Nat.add_zero] at g0
        have hb0 := Utf.gt_lt s p
        rcases (show k = 0 ∨ k = 1 ∨ k = 2 ∨ k = 3 by omega) with rfl | rfl | rfl | rfl
        · have hrk : r = Utf.gt s p := HR.out
          rw [← hrk] at g0 hb0
          clear hrk HR
          have hS0 : (0 : Int) < S.size := by omega
          have hS1 : (1 : Int) ≤ S.size := by omega
          go_wp2
          go_region_law (go_simp; go_at_call 98; refine (BY.out _).mono ?_; rintro e w2 ⟨v2, rfl, hown2, hb2⟩; obtain ⟨_, p2, c2, rfl, _, _, lies2, _⟩ := own_lies hown2; have hcv := lies2.convert (P := Tryd.prog) E.length rfl c2 41 5 9 Tryd.underlying41 Tryd.underlying5 Tryd.underlying9; clear lies2 hown2)
          all_goals
            have B2 : Hid (Below w.heap.size w w2) := thenBelow B0.out (((Below.refl wr.heap.size wr).drew).trans hb2)
            clear hcv hb2
            revert TT
            simp only [Nat.zero_add, Nat.reduceAdd]
            generalize (E == (S.extract 0 1).toList) = tb
            intro TT
            cases tb with
            | true =>
              have HX2 := Lib.hid (NM.out (TT.out.1 rfl))
              clear TT NM NN
              go_wp2
              go_ret2
              exact ⟨by rw [HX2.out]; rfl, B2.out⟩
            | false =>
              have HN2 := Lib.hid (NN.out (fun hm => absurd (TT.out.2 hm) (by decide)))
              clear TT NM NN
              go_wp2
              go_roundw
              case rel => exact ⟨0 + 1, by omega, by go_num, B2.out, HN2.out⟩
              case measure => simp [intOf]
        · have g1 := Utf.gt_at S 1 (by omega)
          rw [HG.out 1 (by omega)] at g1
          have hb1 := Utf.gt_lt s (p + 1)
          have HRr : Hid (r = Utf.gt s p % 32 * 64 + Utf.gt s (p + 1) % 64) := HR.out
          clear HR
          generalize Utf.gt s p = a at g0 hb0 HRr
          generalize Utf.gt s (p + 1) = b at g1 hb1 HRr
          have VQ : Hid (ValQ w) := value_q
          have hS0 : (0 : Int) < S.size := by omega
          have hS1 : (1 : Int) < S.size := by omega
          have hSl : (1 : Int) + 1 ≤ S.size := by omega
          have hSm : (2 : Int) ≤ S.size := by omega
          go_wp2
          go_quiet ((go_at_call 97; exact Calls.quiet_of_same (VQ.out _ _ (by assumption))))
          have er : (a : Int) % 32 * 64 + (b : Int) % 64 = (r : Int) := by have := HRr.out; omega
          rw [er]
          clear er
          have HG0 := Lib.hid g0
          clear g0 g1
          go_wp2
          go_region_law (go_simp; go_at_call 98; refine (BY.out _).mono ?_; rintro e w2 ⟨v2, rfl, hown2, hb2⟩; obtain ⟨_, p2, c2, rfl, _, _, lies2, _⟩ := own_lies hown2; have hcv := lies2.convert (P := Tryd.prog) E.length rfl c2 41 5 9 Tryd.underlying41 Tryd.underlying5 Tryd.underlying9; clear lies2 hown2)
          all_goals
            have B2 : Hid (Below w.heap.size w w2) := thenBelow (below_drewN B0.out nq) (((Below.refl (wr.drewN nq).heap.size (wr.drewN nq)).drew).trans hb2)
            clear hcv hb2
            revert TT
            simp only [Nat.zero_add, Nat.reduceAdd]
            generalize (E == (S.extract 0 2).toList) = tb
            intro TT
            cases tb with
            | true =>
              have HX2 := Lib.hid (NM.out (TT.out.1 rfl))
              clear TT NM NN
              go_wp2
              go_ret2
              exact ⟨by rw [HX2.out]; rfl, B2.out⟩
            | false =>
              have HN2 := Lib.hid (NN.out (fun hm => absurd (TT.out.2 hm) (by decide)))
              clear TT NM NN
              go_wp2
              go_roundw
              case rel => exact ⟨1 + 1, by omega, by go_num, B2.out, HN2.out⟩
              case measure => simp [intOf]
        · have g1 := Utf.gt_at S 1 (by omega)
          rw [HG.out 1 (by omega)] at g1
          have hb1 := Utf.gt_lt s (p + 1)
          have g2 := Utf.gt_at S 2 (by omega)
          rw [HG.out 2 (by omega)] at g2
          have hb2 := Utf.gt_lt s (p + 2)
          have HRr : Hid (r = Utf.gt s p % 16 * 4096 + Utf.gt s (p + 1) % 64 * 64 + Utf.gt s (p + 2) % 64) := HR.out
          clear HR
          generalize Utf.gt s p = a at g0 hb0 HRr
          generalize Utf.gt s (p + 1) = b at g1 hb1 HRr
          generalize Utf.gt s (p + 2) = c at g2 hb2 HRr
          have VQ : Hid (ValQ w) := value_q
          have hS0 : (0 : Int) < S.size := by omega
          have hS1 : (1 : Int) < S.size := by omega
          have hS2 : (2 : Int) < S.size := by omega
          have hSl : (2 : Int) + 1 ≤ S.size := by omega
          have hSm : (3 : Int) ≤ S.size := by omega
          go_wp2
          go_quiet ((go_at_call 97; exact Calls.quiet_of_same (VQ.out _ _ (by assumption))))
          have er : (a : Int) % 16 * 4096 + (b : Int) % 64 * 64 + (c : Int) % 64 = (r : Int) := by have := HRr.out; omega
          rw [er]
          clear er
          have HG0 := Lib.hid g0
          clear g0 g1 g2
          go_wp2
          go_region_law (go_simp; go_at_call 98; refine (BY.out _).mono ?_; rintro e w2 ⟨v2, rfl, hown2, hb2⟩; obtain ⟨_, p2, c2, rfl, _, _, lies2, _⟩ := own_lies hown2; have hcv := lies2.convert (P := Tryd.prog) E.length rfl c2 41 5 9 Tryd.underlying41 Tryd.underlying5 Tryd.underlying9; clear lies2 hown2)
          all_goals
            have B2 : Hid (Below w.heap.size w w2) := thenBelow (below_drewN B0.out nq) (((Below.refl (wr.drewN nq).heap.size (wr.drewN nq)).drew).trans hb2)
            clear hcv hb2
            revert TT
            simp only [Nat.zero_add, Nat.reduceAdd]
            generalize (E == (S.extract 0 3).toList) = tb
            intro TT
            cases tb with
            | true =>
              have HX2 := Lib.hid (NM.out (TT.out.1 rfl))
              clear TT NM NN
              go_wp2
              go_ret2
              exact ⟨by rw [HX2.out]; rfl, B2.out⟩
            | false =>
              have HN2 := Lib.hid (NN.out (fun hm => absurd (TT.out.2 hm) (by decide)))
              clear TT NM NN
              go_wp2
              go_roundw
              case rel => exact ⟨2 + 1, by omega, by go_num, B2.out, HN2.out⟩
              case measure => simp [intOf]
        · have g1 := Utf.gt_at S 1 (by omega)
          rw [HG.out 1 (by omega)] at g1
          have hb1 := Utf.gt_lt s (p + 1)
          have g2 := Utf.gt_at S 2 (by omega)
          rw [HG.out 2 (by omega)] at g2
          have hb2 := Utf.gt_lt s (p + 2)
          have g3 := Utf.gt_at S 3 (by omega)
          rw [HG.out 3 (by omega)] at g3
          have hb3 := Utf.gt_lt s (p + 3)
          have HRr : Hid (r = Utf.gt s p % 8 * 262144 + Utf.gt s (p + 1) % 64 * 4096 + Utf.gt s (p + 2) % 64 * 64 + Utf.gt s (p + 3) % 64) := HR.out
          clear HR
          generalize Utf.gt s p = a at g0 hb0 HRr
          generalize Utf.gt s (p + 1) = b at g1 hb1 HRr
          generalize Utf.gt s (p + 2) = c at g2 hb2 HRr
          generalize Utf.gt s (p + 3) = d at g3 hb3 HRr
          have VQ : Hid (ValQ w) := value_q
          have hS0 : (0 : Int) < S.size := by omega
          have hS1 : (1 : Int) < S.size := by omega
          have hS2 : (2 : Int) < S.size := by omega
          have hS3 : (3 : Int) < S.size := by omega
          have hSl : (3 : Int) + 1 ≤ S.size := by omega
          have hSm : (4 : Int) ≤ S.size := by omega
          go_wp2
          go_quiet ((go_at_call 97; exact Calls.quiet_of_same (VQ.out _ _ (by assumption))))
          have er : (a : Int) % 8 * 262144 + (b : Int) % 64 * 4096 + (c : Int) % 64 * 64 + (d : Int) % 64 = (r : Int) := by have := HRr.out; omega
          rw [er]
          clear er
          have HG0 := Lib.hid g0
          clear g0 g1 g2 g3
          go_wp2
          go_region_law (go_simp; go_at_call 98; refine (BY.out _).mono ?_; rintro e w2 ⟨v2, rfl, hown2, hb2⟩; obtain ⟨_, p2, c2, rfl, _, _, lies2, _⟩ := own_lies hown2; have hcv := lies2.convert (P := Tryd.prog) E.length rfl c2 41 5 9 Tryd.underlying41 Tryd.underlying5 Tryd.underlying9; clear lies2 hown2)
          all_goals
            have B2 : Hid (Below w.heap.size w w2) := thenBelow (below_drewN B0.out nq) (((Below.refl (wr.drewN nq).heap.size (wr.drewN nq)).drew).trans hb2)
            clear hcv hb2
            revert TT
            simp only [Nat.zero_add, Nat.reduceAdd]
            generalize (E == (S.extract 0 4).toList) = tb
            intro TT
            cases tb with
            | true =>
              have HX2 := Lib.hid (NM.out (TT.out.1 rfl))
              clear TT NM NN
              go_wp2
              go_ret2
              exact ⟨by rw [HX2.out]; rfl, B2.out⟩
            | false =>
              have HN2 := Lib.hid (NN.out (fun hm => absurd (TT.out.2 hm) (by decide)))
              clear TT NM NN
              go_wp2
              go_roundw
              case rel => exact ⟨3 + 1, by omega, by go_num, B2.out, HN2.out⟩
              case measure => simp [intOf]
      · have HN : Hid (Utf.nx s p = (-1, 1)) := Utf.nx_none s p fun j hj hf => by
          rcases Nat.lt_or_ge j k with h1 | h1
          · exact NO.out j h1
          · omega
        have hk' : ¬ ((k : Int) + 1 ≤ ((s.size - p : Nat) : Int)) := by omega
        have hk3 : (k : Int) < 4 := by omega
        go_wp2
        go_ret2
        exact ⟨by rw [HX.out, HN.out]; rfl, B0.out⟩
end Go.Proofs.YtjmglgcifekhgaaDoor
/- Arguments opened: a slice of bytes, a slice of ints, as what lies there. No number of a program stands here. -/
namespace Go.Proofs.YtjmglgcifekhgaaDoor
open Go Go.ChangeShapes Go.WideShapes Go.ChangeAt Go.RowKit

/-- a slice of bytes that came in -/
structure Came (w : World) (p : Option Addr) (c : Nat) (l : List UInt8) : Prop where
  lies : Lies w p l
  le : l.length ≤ c
  reach : c ≤ 140737488351232
  none : p = none → l = [] ∧ c = 0

section
variable {H : Type} {enc : TypeId × Value → H} {P : Program} {W : World} {base : Nat} {t e : TypeId} {v : Value} {d : DataW H} {ps : List MemPlace}

theorem open_bytes (ht : P.underlying t = some (.slice e)) (he : P.underlying e = some (.int .u8)) (hc : P.cellsOf e = 1) (hb : P.bytesOf e = 1) (hv : Value.okWide P W .any base t v)
    (h : DataW.Trod enc P W 0 (fun _ => true) true t v d ps) {ts : List TypeId} {ds : List (DataW H)} (hsz : (DataW.weightsEach P ts ds).all (· ≤ reachBytes) = true) (j : Nat) (hjt : ts[j]? = some t) (hjd : ds[j]? = some d) :
    ∃ p c l, v = .slice p l.length c ∧ Came W p c l := by
  obtain ⟨a0, len0, cap0, rfl⟩ := okWide_slice ht hv
  obtain ⟨fuel, hf⟩ := h
  rcases open_ints ht he hc hf with ⟨hcs, _⟩ | ⟨x, len, cap, zs, hcs, _, hl, _, hz, hx, hcell, hwz⟩
  · simp [Value.cells] at hcs
    obtain ⟨rfl, rfl, rfl⟩ := hcs
    exact ⟨none, 0, [], rfl, Lies.nil _ _, Nat.le_refl _, by omega, fun _ => ⟨rfl, rfl⟩⟩
  · simp [Value.cells] at hcs
    obtain ⟨rfl, rfl, rfl⟩ := hcs
    simp only [Prod.mk.injEq] at hx
    obtain ⟨rfl, rfl⟩ := hx
    simp only [if_true] at hz
    have hreach := sized_slice hsz hjt hjd ht
    rw [hb] at hreach
    simp only [lits, List.length_map, List.length_take, List.length_drop, reachBytes] at hreach
    have hlen : ((zs.take len0).map fun z => UInt8.ofNat z.toNat).length = len0 := by simp; omega
    refine ⟨some x, cap0, (zs.take len0).map fun z => UInt8.ofNat z.toNat, by rw [hlen], ?_, by rw [hlen]; exact hl, by omega, fun h => by cases h⟩
    intro h0
    have hpos : 0 < len0 := by
      rcases Nat.eq_zero_or_pos len0 with e | e
      · subst e; simp at h0
      · exact e
    obtain ⟨b, off, spot⟩ := x
    have hsp : spot = none := by simpa [Addr.add] using World.cell?_spot (hcell 0 (by omega))
    subst hsp
    refine ⟨b, off, rfl, fun i hi => ?_⟩
    rw [hlen] at hi
    have h1 := hcell i (by omega)
    rw [Addr.add_lit] at h1
    rw [h1]
    have hget : zs.getD i 0 = zs[i]'(by omega) := by simp [List.getD, List.getElem?_eq_getElem (show i < zs.length by omega)]
    have hw := hwz (zs[i]'(by omega)) (List.getElem_mem _)
    have hr : 0 ≤ zs[i]'(by omega) ∧ zs[i]'(by omega) < 256 := by
      simp [Lit.wf, IntKind.min, IntKind.max, IntKind.bits, IntKind.signed] at hw
      omega
    have e2 : ((zs.take len0).map fun z => UInt8.ofNat z.toNat).getD i 0 = UInt8.ofNat (zs[i]'(by omega)).toNat := by
      simp [List.getD, hi, List.getElem?_eq_getElem (show i < zs.length by omega)]
    rw [hget, e2, UInt8.toNat_ofNat']
    congr 2
    omega

theorem open_text (ht : P.underlying t = some .string) (hv : Value.okWide P W .any base t v) (h : DataW.Trod enc P W 0 (fun _ => true) true t v d ps) {ts : List TypeId} {ds : List (DataW H)}
    (hsz : (DataW.weightsEach P ts ds).all (· ≤ reachBytes) = true) (j : Nat) (hjt : ts[j]? = some t) (hjd : ds[j]? = some d) :
    ∃ s : ByteArray, v = .string s ∧ d = .lit (.string s.data.toList) ∧ ps = [] ∧ s.size ≤ 140737488351232 ∧ s.size ≤ maxLen := by
  obtain ⟨s, rfl, rfl, rfl, hs⟩ := Go.ChangeMaps.open_string ht hv h
  have := sized_string hsz hjt hjd
  refine ⟨s, rfl, rfl, rfl, ?_, hs⟩
  have e1 : s.data.toList.length = s.size := Array.length_toList
  unfold reachBytes at this
  omega
end
end Go.Proofs.YtjmglgcifekhgaaDoor
/- What a slice of ints holds: 'LiesI w p l'. No number of a program stands here. -/
namespace Go.Proofs.YtjmglgcifekhgaaDoor
open Go Go.ChangeShapes Go.WideShapes Go.ChangeAt Go.RowKit

def LiesI (w : World) (p : Option Addr) (l : List Int) : Prop :=
  l ≠ [] → ∃ b o, p = some ⟨b, o, none⟩ ∧ ∀ i, i < l.length → w.cell? ⟨b, o + i, none⟩ = some (.int .i64 (l.getD i 0))
def InI (l : List Int) : Prop := ∀ i, i < l.length → -9223372036854775808 ≤ l.getD i 0 ∧ l.getD i 0 ≤ 9223372036854775807
theorem LiesI.nil (w : World) (p : Option Addr) : LiesI w p [] := fun h => absurd rfl h
theorem LiesI.at {w : World} {p : Option Addr} {l : List Int} (h : LiesI w p l) (h0 : 0 < l.length) :
    ∃ b o, p = some ⟨b, o, none⟩ ∧ b < w.heap.size ∧ ∀ i, i < l.length → w.cell? ⟨b, o + i, none⟩ = some (.int .i64 (l.getD i 0)) := by
  obtain ⟨b, o, rfl, hc⟩ := h (by intro e; subst e; simp at h0)
  exact ⟨b, o, rfl, World.block_lt_of_cell? w _ (hc 0 h0), hc⟩
theorem LiesI.below {w w' : World} {p : Option Addr} {l : List Int} (h : LiesI w p l) (hb : Below w.heap.size w w') : LiesI w' p l := by
  intro h0
  obtain ⟨b, o, rfl, hc⟩ := h h0
  exact ⟨b, o, rfl, fun i hi => by
    have := hc i hi
    have hlt := World.block_lt_of_cell? w _ this
    rw [hb.cell (p := ⟨b, o + i, none⟩) hlt]; exact this⟩
/-- numbers that a constant lays -/
theorem liesI_lit (w : World) (ty : TypeId) (m : Nat × Nat) (l : List Int) (cs : Array Value) (hcs : cs = (l.map (Value.int .i64)).toArray) : LiesI (w.alloc (.cells cs ty m)) (some ⟨w.heap.size, 0, none⟩) l := by
  intro _
  refine ⟨w.heap.size, 0, rfl, fun i hi => ?_⟩
  subst hcs
  rw [Nat.zero_add, cell_of_row (w.alloc _) w.heap.size i _ ty m (heap_alloc_new w _)]
  simp [List.getD, List.getElem?_eq_getElem hi]

/-- a slice of ints that came in -/
structure CameI (w : World) (p : Option Addr) (c : Nat) (l : List Int) : Prop where
  lies : LiesI w p l
  le : l.length ≤ c
  reach : c * 8 ≤ 140737488351232
  none : p = none → l = [] ∧ c = 0
  wf : InI l

section
variable {H : Type} {enc : TypeId × Value → H} {P : Program} {W : World} {base : Nat} {t e : TypeId} {v : Value} {d : DataW H} {ps : List MemPlace}

theorem open_nums (ht : P.underlying t = some (.slice e)) (he : P.underlying e = some (.int .i64)) (hc : P.cellsOf e = 1) (hb : P.bytesOf e = 8) (hv : Value.okWide P W .any base t v)
    (h : DataW.Trod enc P W 0 (fun _ => true) true t v d ps) {ts : List TypeId} {ds : List (DataW H)} (hsz : (DataW.weightsEach P ts ds).all (· ≤ reachBytes) = true) (j : Nat) (hjt : ts[j]? = some t) (hjd : ds[j]? = some d) :
    ∃ p c l, v = .slice p l.length c ∧ CameI W p c l ∧ (d = .nil ∨ ∃ es sp, d = .slice es sp ∧ es.length = l.length ∧ es.length + sp.length = c) := by
  obtain ⟨a0, len0, cap0, rfl⟩ := okWide_slice ht hv
  obtain ⟨fuel, hf⟩ := h
  rcases open_ints ht he hc hf with ⟨hcs, hx⟩ | ⟨x, len, cap, zs, hcs, _, hl, _, hz, hx, hcell, hwz⟩
  · simp [Value.cells] at hcs
    obtain ⟨rfl, rfl, rfl⟩ := hcs
    simp only [Prod.mk.injEq] at hx
    exact ⟨none, 0, [], rfl, ⟨LiesI.nil _ _, Nat.le_refl _, by omega, fun _ => ⟨rfl, rfl⟩, fun i hi => by simp at hi⟩, .inl hx.1⟩
  · simp [Value.cells] at hcs
    obtain ⟨rfl, rfl, rfl⟩ := hcs
    simp only [Prod.mk.injEq] at hx
    obtain ⟨rfl, rfl⟩ := hx
    simp only [if_true] at hz
    have hreach := sized_slice hsz hjt hjd ht
    rw [hb] at hreach
    simp only [lits, List.length_map, List.length_take, List.length_drop, reachBytes] at hreach
    have hlen : (zs.take len0).length = len0 := by simp; omega
    refine ⟨some x, cap0, zs.take len0, by rw [hlen], ⟨?_, by rw [hlen]; exact hl, by omega, (fun h => by cases h), ?_⟩, .inr ⟨_, _, rfl, by simp [lits], by simp [lits]; omega⟩⟩
    · intro h0
      have hpos : 0 < len0 := by
        rcases Nat.eq_zero_or_pos len0 with e | e
        · subst e; simp at h0
        · exact e
      obtain ⟨b, off, spot⟩ := x
      have hsp : spot = none := by simpa [Addr.add] using World.cell?_spot (hcell 0 (by omega))
      subst hsp
      refine ⟨b, off, rfl, fun i hi => ?_⟩
      rw [hlen] at hi
      have h1 := hcell i (by omega)
      rw [Addr.add_lit] at h1
      rw [h1]
      simp [List.getD, hi, List.getElem?_eq_getElem (show i < zs.length by omega)]
    · intro i hi
      rw [hlen] at hi
      have hw := hwz (zs[i]'(by omega)) (List.getElem_mem _)
      simp [Lit.wf, IntKind.min, IntKind.max, IntKind.bits, IntKind.signed] at hw
      have e1 : (zs.take len0).getD i 0 = zs[i]'(by omega) := by simp [List.getD, hi, List.getElem?_eq_getElem (show i < zs.length by omega)]
      rw [e1]
      omega
end
open Go Go.RowKit

def ints (l : List Int) : List Value := l.map (Value.int .i64)
theorem ints_append (a b : List Int) : ints (a ++ b) = ints a ++ ints b := by simp [ints]
theorem ints_length (l : List Int) : (ints l).length = l.length := by simp [ints]
theorem ints_one (l : List Int) : ∀ u ∈ ints l, u.oneCell' = true := by
  intro u hu; obtain ⟨_, _, rfl⟩ := List.mem_map.1 hu; rfl
theorem ints_get (l : List Int) (i : Nat) (h : i < l.length) : (ints l)[i]? = some (.int .i64 (l.getD i 0)) := by
  simp [ints, List.getD, List.getElem?_eq_getElem h]

/-- a type of slices of ints -/
structure I64 (P : Program) (t e : TypeId) : Prop where
  slice : P.underlying t = some (.slice e)
  info : (P.info? e).map (fun i => (i.zero, i.size, i.bytes)) = some (some (.int .i64 0), 1, 8)
theorem infoI64 : (Tryd.prog.info? 3).map (fun i => (i.zero, i.size, i.bytes)) = some (some (.int .i64 0), 1, 8) := by kernel_rfl
theorem isI64 : I64 Tryd.prog 99 3 := ⟨Tryd.underlying99, infoI64⟩

section
variable {P : Program} {t e : TypeId} {ops : Array Oper} {rest : List Oper} {o : Oper} {a : Act} {Q : Exit → Act → World → Prop}
/-- 'out = append(out, x)', out the call's own, x an int -/
theorem wpList_int (U : I64 P t e) (w : World) (hg : o.guard = none) (s x : Operand) (ho : o.op = .call { callee := .builtin .append, args := #[s, x], argTypes := #[t, t] })
    (B n : Nat) (l : List Int) (v : Value) (hs : a.eval s = v) (hown : w.ownsRow B e 1 v n (ints l)) (X : Int) (hx : a.eval x = .slice (some ⟨w.heap.size, 0, none⟩) 1 1)
    (hlen : n + 1 ≤ 1000000) (hB : B ≤ w.heap.size)
    (h : ∀ v' w', w'.ownsRow B e 1 v' (n + 1) (ints (l ++ [X])) → Below B w w' → wpList P ops Q rest (a.put o.dst v') w') : wpList P ops Q (o :: rest) a (w.alloc (.cells #[.int .i64 X] e)) := by
  obtain ⟨i0, hi, hz0, hz1, hz2⟩ := info_parts U.info
  refine wpList_append_own _ hg s x t ho B e i0 (.int .i64 0) 1 8 U.slice hi hz0 hz1 hz2 rfl (by decide) v n (ints l) hs (hown.alloc _) ⟨w.heap.size, 0, none⟩ 1 1 (ints [X]) hx rfl ?_ (ints_one _) (by unfold maxLen; omega) (by omega) (by simp; omega) ?_
  · intro j u hu
    match j, hu with
    | 0, hu => simp [ints] at hu; subst hu; simp [Addr.add]
  · intro v' w' h1 h2 _
    refine h v' w' (by rw [ints_append]; exact h1) ?_
    exact ((Below.refl B w).alloc hB _).grown h2 (by simp; omega) (fun k hk => (hown.lt k hk).1)
end
theorem own_liesI {w : World} {B : Nat} {e : TypeId} {v : Value} {n : Nat} {l : List Int} (h : w.ownsRow B e 1 v n (ints l)) :
    n = l.length ∧ ∃ p cap, v = .slice p l.length cap ∧ l.length ≤ cap ∧ LiesI w p l ∧ (p = none → l = [] ∧ cap = 0) := by
  have hlen : n = l.length := by have := h.1; simpa [ints_length] using this.symm
  subst hlen
  refine ⟨rfl, ?_⟩
  have h' := h
  rcases h.2 with ⟨rfl, hn⟩ | ⟨g, cap, cur, rfl, _, _, hnc, hcm, _, _⟩
  · have : l = [] := List.eq_nil_of_length_eq_zero hn
    subst this
    exact ⟨none, 0, rfl, Nat.le_refl _, LiesI.nil _ _, fun _ => ⟨rfl, rfl⟩⟩
  · refine ⟨some ⟨g, 0, none⟩, cap, rfl, hnc, fun _ => ⟨g, 0, rfl, fun i hi => ?_⟩, fun e => by cases e⟩
    rw [Nat.zero_add, h'.cellAt i (by omega), ints_get l i hi]
theorem ownI_later {w w' : World} {B : Nat} {ty : TypeId} {n : Nat} {v : Value} {xs : List Value} (h : w.ownsRow B ty 1 v n xs) (hb : Below w.heap.size w w') : w'.ownsRow B ty 1 v n xs := by
  refine ⟨h.1, ?_⟩
  rcases h.2 with q | ⟨g, cap, cur, q1, q2, q3, q4⟩
  · exact .inl q
  · exact .inr ⟨g, cap, cur, q1, q2, by rw [hb.block g (Array.getElem?_eq_some_iff.1 q3).1]; exact q3, q4⟩
/-- what a call that hands back ints of its own comes to -/
def RetInts (w : World) (ty : TypeId) (l : List Int) (e : Ending) (w' : World) : Prop :=
  ∃ v, e = .returned v ∧ w'.ownsRow w.heap.size ty 1 v l.length (ints l) ∧ Below w.heap.size w w'
theorem RetInts.of_own {w w' : World} {ty : TypeId} {v : Value} {n : Nat} {l : List Int} {e : Ending} (h : w'.ownsRow w.heap.size ty 1 v n (ints l)) (he : e = .returned v) (hb : Below w.heap.size w w') : RetInts w ty l e w' := by
  have := (own_liesI h).1
  subst this
  exact ⟨v, he, h, hb⟩
end Go.Proofs.YtjmglgcifekhgaaDoor
/- Where steps end: the document's Ends, Valid, Count, Cut, and utf's Count and Cut, exactly. -/
namespace Go.Proofs.YtjmglgcifekhgaaDoor
open Go Go.RowKit

namespace Utf
/-- the ends of the steps from p on -/
def ends (s : ByteArray) : Nat → Nat → List Nat
  | 0, _ => []
  | f + 1, p => if p < s.size then (p + (nx s p).2) :: ends s f (p + (nx s p).2) else []
theorem ends_end (s : ByteArray) (f p : Nat) (h : s.size ≤ p) : ends s f p = [] := by
  cases f with
  | zero => rfl
  | succ f => rw [ends, if_neg (by omega)]
theorem ends_step (s : ByteArray) (f p : Nat) (h : p < s.size) (hf : s.size ≤ p + f) : ends s f p = (p + (nx s p).2) :: ends s (f - 1) (p + (nx s p).2) := by
  cases f with
  | zero => omega
  | succ f => rw [ends, if_pos h]; rfl
theorem ends_len (s : ByteArray) : ∀ f p, p ≤ s.size → (ends s f p).length + p ≤ s.size := by
  intro f
  induction f with
  | zero => intro p h; simp [ends, h]
  | succ f ih =>
    intro p h
    rw [ends]
    split
    · rename_i hp
      have := nx_step s p hp
      have := ih (p + (nx s p).2) (by omega)
      simp only [List.length_cons]; omega
    · simp; omega
theorem ends_fuel (s : ByteArray) : ∀ f g p, s.size ≤ p + f → s.size ≤ p + g → ends s f p = ends s g p := by
  intro f
  induction f with
  | zero => intro g p h _; rw [ends_end s _ p (by omega), ends_end s _ p (by omega)]
  | succ f ih =>
    intro g p h1 h2
    by_cases hp : p < s.size
    · have := nx_step s p hp
      rw [ends_step s (f + 1) p hp h1, ends_step s g p hp h2, Nat.add_sub_cancel, ih (g - 1) _ (by omega) (by omega)]
    · rw [ends_end s _ p (by omega), ends_end s _ p (by omega)]
/-- where the longest beginning of at most n ends -/
def cutF (s : ByteArray) (n : Int) : Nat → Nat → Nat
  | 0, p => p
  | f + 1, p => if p < s.size then (if ((p + (nx s p).2 : Nat) : Int) ≤ n then cutF s n f (p + (nx s p).2) else p) else p
theorem cutF_end (s : ByteArray) (n : Int) (f p : Nat) (h : s.size ≤ p) : cutF s n f p = p := by
  cases f with
  | zero => rfl
  | succ f => rw [cutF, if_neg (by omega)]
theorem cutF_no (s : ByteArray) (n : Int) (f p : Nat) (h : ¬ ((p + (nx s p).2 : Nat) : Int) ≤ n) : cutF s n f p = p := by
  cases f with
  | zero => rfl
  | succ f => rw [cutF, if_neg h]; split <;> rfl
theorem cutF_step (s : ByteArray) (n : Int) (f p : Nat) (h : p < s.size) (hf : s.size ≤ p + f) (hn : ((p + (nx s p).2 : Nat) : Int) ≤ n) : cutF s n f p = cutF s n (f - 1) (p + (nx s p).2) := by
  cases f with
  | zero => omega
  | succ f => rw [cutF, if_pos h, if_pos hn]; rfl
theorem cutF_le (s : ByteArray) (n : Int) : ∀ f p, p ≤ s.size → cutF s n f p ≤ s.size := by
  intro f
  induction f with
  | zero => intro p h; exact h
  | succ f ih =>
    intro p h
    rw [cutF]
    split
    · rename_i hp
      have := nx_step s p hp
      split
      · exact ih _ (by omega)
      · exact h
    · exact h
/-- what the document's Cut has behind some ends -/
def lastIn (n : Int) (at_ : Nat) (l : List Nat) : Nat := l.foldl (fun (a : Nat) (e : Nat) => if (e : Int) ≤ n then e else a) at_
theorem lastIn_big (n : Int) (at_ : Nat) (l : List Nat) (h : ∀ e ∈ l, ¬ (e : Int) ≤ n) : lastIn n at_ l = at_ := by
  induction l with
  | nil => rfl
  | cons e l ih =>
    unfold lastIn at ih ⊢
    rw [List.foldl_cons, if_neg (h e (by simp))]
    exact ih fun x hx => h x (by simp [hx])
theorem ends_above (s : ByteArray) : ∀ f p, ∀ e ∈ ends s f p, p < e := by
  intro f
  induction f with
  | zero => intro p e h; simp [ends] at h
  | succ f ih =>
    intro p e h
    rw [ends] at h
    split at h
    · rename_i hp
      have := nx_step s p hp
      rcases List.mem_cons.1 h with rfl | h
      · omega
      · have := ih _ e h; omega
    · simp at h
theorem lastIn_ends (s : ByteArray) (n : Int) : ∀ f p, s.size ≤ p + f → lastIn n p (ends s f p) = cutF s n f p := by
  intro f
  induction f with
  | zero => intro p _; rfl
  | succ f ih =>
    intro p hf
    by_cases hp : p < s.size
    · have hst := nx_step s p hp
      rw [ends_step s _ p hp hf, Nat.add_sub_cancel]
      by_cases hn : ((p + (nx s p).2 : Nat) : Int) ≤ n
      · rw [cutF_step s n _ p hp hf hn, Nat.add_sub_cancel, ← ih _ (by omega)]
        unfold lastIn
        rw [List.foldl_cons, if_pos hn]
      · rw [cutF_no s n _ p hn]
        refine lastIn_big n p _ fun e he => ?_
        rcases List.mem_cons.1 he with rfl | he
        · exact hn
        · have := ends_above s _ _ e he; omega
    · rw [ends_end s _ p (by omega), cutF_end s n _ p (by omega)]; rfl
end Utf

def casts (l : List Nat) : List Int := l.map fun (n : Nat) => (n : Int)
theorem casts_len (l : List Nat) : (casts l).length = l.length := by simp [casts]
theorem casts_get (l : List Nat) (i : Nat) (h : i < l.length) : (casts l).getD i 0 = ((l.getD i 0 : Nat) : Int) := by
  simp [casts, List.getD, List.getElem?_eq_getElem h]

/-- the relation of the document's walk through a text: the next step begins at p = i + skip -/
structure Walks (s : ByteArray) (i skip p f : Nat) (done all : List Nat) : Prop where
  at_ : p = i + skip
  le : p ≤ s.size
  fuel : s.size ≤ p + f
  all : done ++ Utf.ends s f p = all

end Go.Proofs.YtjmglgcifekhgaaDoor
/- The document's Valid, Count and Cut, and utf's Count and Cut, exactly. -/
namespace Go.Proofs.YtjmglgcifekhgaaDoor
open Go Go.RowKit

namespace Utf
theorem ends_at (s : ByteArray) (all : List Nat) (k f p : Nat) (h : all.drop k = ends s f p) (hf : s.size ≤ p + f) (hk : k < all.length) :
    p < s.size ∧ all.getD k 0 = p + (nx s p).2 ∧ all.drop (k + 1) = ends s (f - 1) (p + (nx s p).2) := by
  have hp : p < s.size := by
    rcases Nat.lt_or_ge p s.size with e | e
    · exact e
    · rw [ends_end s f p e] at h
      have := congrArg List.length h
      simp at this; omega
  rw [ends_step s f p hp hf, List.drop_eq_getElem_cons hk] at h
  injection h with h1 h2
  exact ⟨hp, by simp [List.getD, List.getElem?_eq_getElem hk, h1], h2⟩
theorem ends_no (s : ByteArray) (all : List Nat) (k f p : Nat) (h : all.drop k = ends s f p) (hf : s.size ≤ p + f) (hk : all.length ≤ k) : s.size ≤ p := by
  rcases Nat.lt_or_ge p s.size with e | e
  · rw [ends_step s f p e hf, List.drop_eq_nil_of_le hk] at h
    cases h
  · exact e
theorem lastIn_succ (n : Int) (l : List Nat) (k : Nat) (h : k < l.length) : lastIn n 0 (l.take (k + 1)) = if ((l.getD k 0 : Nat) : Int) ≤ n then l.getD k 0 else lastIn n 0 (l.take k) := by
  unfold lastIn
  rw [List.take_succ_eq_append_getElem h, List.foldl_append]
  simp [List.getD, List.getElem?_eq_getElem h]
theorem lastIn_le (n : Int) (l : List Nat) (B : Nat) (h : ∀ e ∈ l, e ≤ B) : lastIn n 0 l ≤ B := by
  unfold lastIn
  have : ∀ (l : List Nat) (a : Nat), (∀ e ∈ l, e ≤ B) → a ≤ B → l.foldl (fun (a : Nat) (e : Nat) => if (e : Int) ≤ n then e else a) a ≤ B := by
    intro l
    induction l with
    | nil => intro a _ ha; exact ha
    | cons e l ih =>
      intro a h ha
      rw [List.foldl_cons]
      exact ih _ (fun x hx => h x (by simp [hx])) (by split; exact h e (by simp); exact ha)
  exact this l 0 h (Nat.zero_le _)
theorem ends_within (s : ByteArray) : ∀ f p, ∀ e ∈ ends s f p, e ≤ s.size := by
  intro f
  induction f with
  | zero => intro p e h; simp [ends] at h
  | succ f ih =>
    intro p e h
    rw [ends] at h
    split at h
    · rename_i hp
      have := nx_step s p hp
      rcases List.mem_cons.1 h with rfl | h
      · omega
      · exact ih _ e h
    · simp at h
end Utf

set_option maxHeartbeats 1000000 in
theorem utfRefValid_is (s : ByteArray) (w : World) (hs : s.size ≤ 100000) :
    Calls Tryd.prog 76 #[.string s] w (fun e w' => e = .returned (.bool (Utf.valid s)) ∧ Below w.heap.size w w') := by
  obtain ⟨b, hb⟩ : ∃ b, b = Utf.valid s := ⟨_, rfl⟩
  rw [← hb]
  have HB : Hid (b = Utf.vd s s.size 0) := hb
  clear hb
  go_enter Tryd.func76, Tryd.ntmps76
  go_wp2
  go_loopw [3, 9] (fun k i wr => ∃ (i' k' p f : Nat), i = .int .i64 i' ∧ k = .int .i64 k' ∧ i' ≤ s.size ∧ p = i' + k' ∧ p ≤ s.size ∧ s.size ≤ p + f ∧ b = Utf.vd s f p ∧ Below w.heap.size w wr) (fun _ i _ => s.size - (intOf i).toNat)
  case atStart => exact ⟨0, 0, 0, s.size, rfl, rfl, Nat.zero_le _, rfl, Nat.zero_le _, by omega, HB.out, Below.refl _ _⟩
  case round =>
    obtain ⟨i, k, p, f, rfl, rfl, hi, hpk, hp, hf, hbv, hb⟩ := hrel
    have BV := Lib.hid hbv; have B := Lib.hid hb
    clear hbv hb
    by_cases hlt : i < s.size
    · have hlt' : (i : Int) < s.size := by omega
      by_cases hk : 0 < k
      · have hk' : (k : Int) > 0 := by omega
        go_wp2
        go_roundw
        case rel => exact ⟨i + 1, k - 1, p, f, by go_num, by rw [Int.ofNat_sub (by omega)]; rfl, by omega, by omega, hp, hf, BV.out, B.out⟩
        case measure => simp [intOf]; omega
      · have hk0 : k = 0 := by omega
        have hpi : p = i := by omega
        subst hk0; subst hpi
        clear hpk hk
        have hst := Utf.nx_step s p hlt
        have HV := Lib.hid (fun h => Utf.vd_no s f p hlt hf h)
        have HV2 := Lib.hid (fun h => Utf.vd_step s f p hlt hf h)
        have NX := Lib.hid (refNext_in s p wr hlt (by omega))
        generalize Utf.nx s p = xm at hst HV HV2 NX
        obtain ⟨x, m⟩ := xm
        simp only at hst HV HV2
        obtain ⟨m1, m2, m3⟩ := hst
        by_cases hx : x < 0
        · have HE := Lib.hid (HV.out hx)
          clear HV HV2
          go_wp2_with fail
          refine NX.out.mono ?_
          rintro e w1 ⟨rfl, hb1⟩
          have B1 := Lib.hid (thenBelow B.out hb1)
          clear NX hb1
          go_wp2
          go_ret
          exact ⟨ret_bool (by rw [BV.out, HE.out]), B1.out⟩
        · have HE := Lib.hid (HV2.out hx)
          clear HV HV2
          go_wp2_with fail
          refine NX.out.mono ?_
          rintro e w1 ⟨rfl, hb1⟩
          have B1 := Lib.hid (thenBelow B.out hb1)
          clear NX hb1
          go_wp2
          go_roundw
          case rel => exact ⟨p + 1, m - 1, p + m, f - 1, by go_num, by rw [Int.ofNat_sub (by omega)]; rfl, by omega, by omega, by omega, by omega, by rw [BV.out, HE.out], B1.out⟩
          case measure => simp [intOf]; omega
    · have hlt' : ¬ (i : Int) < s.size := by omega
      have HE := Lib.hid (Utf.vd_end s f p (by omega))
      go_wp2
      go_ret
      exact ⟨ret_bool (by rw [BV.out, HE.out]), B.out⟩

/-- a text that is handed back, and what was there -/
def RetT (w : World) (s : ByteArray) (e : Ending) (w' : World) : Prop := e = .returned (.string s) ∧ Below w.heap.size w w'

end Go.Proofs.YtjmglgcifekhgaaDoor
/- The document's names and texts. -/
namespace Go.Proofs.YtjmglgcifekhgaaDoor
open Go Go.RowKit
set_option linter.unusedVariables false
set_option maxRecDepth 1000000

set_option maxHeartbeats 4000000 in
theorem refDocName_is (s : ByteArray) (w : World) : Calls Tryd.prog 49 #[.string s] w fun e w' => e = .returned (.bool (nameB s)) ∧ w = w' := by
  obtain ⟨b, hb⟩ : ∃ b, b = nameB s := ⟨_, rfl⟩
  rw [← hb]
  have HB := Lib.hid hb
  clear hb
  by_cases h1 : s.size < 1
  · have h1' : (s.size : Int) < 1 := by omega
    go_enter Tryd.func49, Tryd.ntmps49
    go_wp2
    go_ret
    exact ⟨ret_bool (by rw [HB.out, name_len (.inl h1)]), rfl⟩
  · have h1' : ¬ (s.size : Int) < 1 := by omega
    by_cases h2 : 12 < s.size
    · have h2' : (s.size : Int) > 12 := by omega
      go_enter Tryd.func49, Tryd.ntmps49
      go_wp2
      go_ret
      exact ⟨ret_bool (by rw [HB.out, name_len (.inr h2)]), rfl⟩
    · have h2' : ¬ (s.size : Int) > 12 := by omega
      go_enter Tryd.func49, Tryd.ntmps49
      go_wp2
      go_loop [15] (fun i => ∃ k : Nat, k ≤ s.size ∧ i = .int .i64 k ∧ ∀ i, i < k → inN (Utf.gt s i) = true) (fun i => s.size - (intOf i).toNat)
      case atStart => exact ⟨0, Nat.zero_le _, rfl, fun i hi => by omega⟩
      case round =>
        obtain ⟨k, hk, rfl, hall⟩ := hrel
        have HA := Lib.hid hall
        clear hall
        by_cases hks : k < s.size
        · have hks' : (k : Int) < s.size := by omega
          have hg := Utf.gt_at s k hks
          have HI : Hid (∀ i, i < k + 1 → inN (Utf.gt s k) = true → inN (Utf.gt s i) = true) := Lib.hid fun i hi h => by
            rcases Nat.lt_or_ge i k with h3 | h3
            · exact HA.out i h3
            · obtain rfl : i = k := by omega
              exact h
          have NO : Hid (inN (Utf.gt s k) = false → nameB s = false) := Lib.hid fun h => name_no hks h
          generalize Utf.gt s k = c at hg HI NO
          have key : (((c : Int) < 45 ∧ ((c : Int) == 45) = false) ∧ inN c = false) ∨ (((c : Int) = 45 ∧ ((c : Int) == 45) = true) ∧ inN c = true) ∨ ((45 < (c : Int) ∧ (c : Int) < 48 ∧ ((c : Int) == 45) = false) ∧ inN c = false) ∨ ((48 ≤ (c : Int) ∧ (c : Int) ≤ 57) ∧ inN c = true) ∨ ((57 < (c : Int) ∧ (c : Int) < 97 ∧ ((c : Int) == 45) = false ∧ decide ((c : Int) ≤ 57) = false) ∧ inN c = false) ∨ ((97 ≤ (c : Int) ∧ (c : Int) ≤ 122) ∧ inN c = true) ∨ ((122 < (c : Int) ∧ ((c : Int) == 45) = false ∧ decide ((c : Int) ≤ 57) = false ∧ decide ((c : Int) ≤ 122) = false) ∧ inN c = false) := by
            unfold inN
            simp only [decide_eq_true_eq, decide_eq_false_iff_not, beq_eq_false_iff_ne, beq_iff_eq, ne_eq]
            omega
          generalize inN c = r at HI NO key
          rcases key with ⟨⟨q1, q2⟩, rfl⟩ | ⟨⟨q1, q2⟩, rfl⟩ | ⟨⟨q1, q2, q3⟩, rfl⟩ | ⟨⟨q1, q2⟩, rfl⟩ | ⟨⟨q1, q2, q3, q4⟩, rfl⟩ | ⟨⟨q1, q2⟩, rfl⟩ | ⟨⟨q1, q2, q3, q4⟩, rfl⟩
          all_goals
            go_wp2
            first
              | (go_round
                 case rel => exact ⟨k + 1, by omega, by go_num, fun i hi => HI.out i hi (by first | exact rfl | trivial)⟩
                 case measure => simp [intOf]; omega)
              | (go_ret
                 exact ⟨ret_bool (by first | exact (HB.out.trans (NO.out (by first | exact rfl | trivial))) | exact (HB.out.trans (NO.out (by first | exact rfl | trivial))).symm), rfl⟩)
        · have hks' : ¬ (k : Int) < s.size := by omega
          go_wp2
          go_ret
          exact ⟨ret_bool (by rw [HB.out, name_yes (by omega) (by omega) (fun i hi => HA.out i (by omega))]), rfl⟩
set_option maxHeartbeats 1000000 in
theorem refDocText_is (f : Int) (s : ByteArray) (w : World) : Calls Tryd.prog 51 #[.int .i64 f, .string s] w (Check1 w (txtE f s)) := by
  obtain ⟨x, hx⟩ : ∃ x, x = txtE f s := ⟨_, rfl⟩
  rw [← hx]
  have UV := Lib.hid (fun h160 : s.size ≤ 160 => utfRefValid_is s w (by omega))
  have key : (f < 0 ∧ x = 1) ∨ ((¬ f < 0 ∧ f > 4) ∧ x = 1) ∨ (f = 0 ∧ s.size ≠ 0 ∧ x = 1) ∨ ((¬ f < 0 ∧ ¬ f > 4) ∧ (f ≠ 0 ∨ s.size = 0) ∧ ((160 < s.size ∧ x = 5) ∨ (¬ 160 < s.size ∧ Utf.valid s = true ∧ x = 0) ∨ (¬ 160 < s.size ∧ Utf.valid s = false ∧ x = 7))) := by
    rw [hx]; unfold txtE
    by_cases c1 : f < 0
    · exact .inl ⟨c1, by rw [if_pos (.inl c1)]⟩
    by_cases c2 : f > 4
    · exact .inr (.inl ⟨⟨c1, c2⟩, by rw [if_pos (.inr (.inl (by omega)))]⟩)
    by_cases c3 : f = 0 ∧ s.size ≠ 0
    · exact .inr (.inr (.inl ⟨c3.1, c3.2, by rw [if_pos (.inr (.inr c3))]⟩))
    · refine .inr (.inr (.inr ⟨⟨c1, c2⟩, by omega, ?_⟩))
      rw [if_neg (by omega)]
      by_cases c4 : 160 < s.size
      · exact .inl ⟨c4, by rw [if_pos c4]⟩
      · rw [if_neg c4]
        cases e : Utf.valid s
        · exact .inr (.inr ⟨c4, rfl, rfl⟩)
        · exact .inr (.inl ⟨c4, rfl, rfl⟩)
  clear hx
  rcases key with ⟨h1, rfl⟩ | ⟨⟨h1, h2⟩, rfl⟩ | ⟨rfl, h1, rfl⟩ | ⟨⟨h1, h2⟩, h3, h4⟩
  · go_enter Tryd.func51, Tryd.ntmps51
    go_wp2
    go_ret
    exact ⟨rfl, Below.refl _ _⟩
  · go_enter Tryd.func51, Tryd.ntmps51
    go_wp2
    go_ret
    exact ⟨rfl, Below.refl _ _⟩
  · have f1 : (s.size : Int) > 0 := by omega
    go_enter Tryd.func51, Tryd.ntmps51
    go_wp2
    go_ret
    exact ⟨rfl, Below.refl _ _⟩
  · have f0 : f ≠ 0 ∨ (f = 0 ∧ ¬ (s.size : Int) > 0) := by omega
    clear h3
    rcases f0 with f0 | ⟨rfl, f0⟩
    all_goals
      rcases h4 with ⟨c1, rfl⟩ | ⟨c1, c2, rfl⟩ | ⟨c1, c2, rfl⟩
      · have c1' : (s.size : Int) > 160 := by omega
        go_enter Tryd.func51, Tryd.ntmps51
        go_wp2
        all_goals
          go_ret
          exact ⟨rfl, Below.refl _ _⟩
      all_goals
        have c1' : ¬ (s.size : Int) > 160 := by omega
        rw [c2] at UV
        go_enter Tryd.func51, Tryd.ntmps51
        go_wp2_with fail
        refine (UV.out (by omega)).mono ?_
        rintro e w' ⟨rfl, hb⟩
        have BB := Lib.hid hb
        clear hb
        go_wp2
        go_ret
        exact ⟨rfl, BB.out⟩
set_option maxRecDepth 1000000

theorem ev_dot {w : World} {b o : Nat} {x : EvP} (h : w.rangeAt b o x.cells) : w.rangeAt b o [.int .i64 x.e.rep, .int .i64 x.e.n] := fun j v hv => by
  match j, hv with
  | 0, hv => exact h 0 v hv
  | 1, hv => exact h 1 v hv
  | j + 2, hv => simp at hv
set_option maxHeartbeats 8000000 in
theorem refCheck_is (x : EvP) (w : World) (hx : x.Ok w) :
    Calls Tryd.prog 20 #[.agg x.cells.toArray] w (Check1 w (chk x.e)) := by
  have HX := Lib.hid hx
  clear hx
  obtain ⟨X, hX⟩ : ∃ X, chk x.e = X := ⟨_, rfl⟩
  rw [hX]
  have HC := Lib.hid hX
  clear hX
  go_enter Tryd.func20, Tryd.ntmps20
  go_wp2_with (refine wpList_gbox rfl _ rfl x.cells.toArray rfl ?_)
  intro g1 w1 lg1 hg1 hb1
  have B1 := Lib.hid hb1
  have R1 := Lib.hid (range_of_block hg1)
  have R1 : Hid (w1.rangeAt g1 0 x.cells) := Lib.hid (by have := R1.out; simpa using this)
  have OKX : Hid (∀ W, Below w.heap.size w W → DRow W x.p x.e.gone) := Lib.hid fun W hW => HX.out.1.below hW
  clear hg1 hb1 HX
  obtain ⟨⟨r, n, t, kd, d, fl, tx, gn⟩, gp, gc⟩ := x
  simp only at HC OKX
  obtain ⟨c0, c1, c2, c3, c4, c5, c6, c7⟩ := ev_cells R1.out
  simp only [Nat.zero_add] at c0 c1 c2 c3 c4 c5 c6 c7
  go_wp2_with fail
  refine (refValid_is r n _).mono ?_
  rintro e w2 ⟨rfl, hb2⟩
  have B2 := Lib.hid (thenBelow B1.out hb2)
  have R2 := Lib.hid (range_below R1.out hb2)
  clear c0 c1 c2 c3 c4 c5 c6 c7 hb2
  obtain ⟨c0, c1, c2, c3, c4, c5, c6, c7⟩ := ev_cells R2.out
  simp only [Nat.zero_add] at c0 c1 c2 c3 c4 c5 c6 c7
  have NO : Hid (¬ (vldB r n = true ∧ (1 ≤ t ∧ t ≤ 1099511627776) ∧ nameB d = true ∧ goB gn (r, n) = true) → X = 1) := Lib.hid fun h => HC.out.symm.trans (chk_no (head_no h))
  have EL : Hid (kd ≠ 1 → ¬ (kd = 2 ∧ fl = 0 ∧ tx.size = 0) → X = 1) := Lib.hid fun h h2 => HC.out.symm.trans (chk_else h h2)
  cases hv : vldB r n with
  | false =>
    have hf := NO.out (by rw [hv]; simp)
    subst hf
    go_wp2
    go_ret
    exact ⟨rfl, B2.out⟩
  | true =>
    have HV := Lib.hid hv
    clear hv
    by_cases ht1 : t < 1
    · have hf := NO.out (by omega)
      subst hf
      go_wp2
      go_ret
      exact ⟨rfl, B2.out⟩
    · by_cases ht2 : t > 1099511627776
      · have hf := NO.out (by omega)
        subst hf
        go_wp2
        go_ret
        exact ⟨rfl, B2.out⟩
      · have DN := Lib.hid (refDocName_is d w2)
        go_wp2_with fail
        refine DN.out.mono ?_
        rintro e w3 ⟨rfl, rfl⟩
        clear DN
        cases hd : nameB d with
        | false =>
          have hf := NO.out (by rw [hd]; simp)
          subst hf
          clear hd
          go_wp2
          go_ret
          exact ⟨rfl, B2.out⟩
        | true =>
          have HD := Lib.hid hd
          clear hd
          obtain ⟨m, hm⟩ : ∃ m, gn.length = m := ⟨_, rfl⟩
          by_cases h120 : m > 120
          · have h120' : (m : Int) > 120 := by omega
            have hf := NO.out (by rw [go_long (by omega)]; simp)
            subst hf
            rw [hm] at c7
            clear hm
            go_wp2
            go_ret
            exact ⟨rfl, B2.out⟩
          · have h120' : ¬ (m : Int) > 120 := by omega
            have HN := Lib.hid hm
            rw [hm] at c7
            clear hm
            have GB : Hid (goB gn (r, n) = false → X = 1) := Lib.hid fun h => NO.out (by rw [h]; simp)
            clear NO
            go_wp2
            clear c0 c1 c2 c3 c4 c5 c6 c7
            go_loopw [34] (fun i wr => ∃ k : Nat, k ≤ m ∧ i = .int .i64 k ∧ (∀ i (h : i < gn.length), i < k → vl gn[i] = true ∧ gn[i] ≠ (r, n)) ∧ (∀ i (h : i + 1 < gn.length), i + 1 < k → ltD gn[i] gn[i + 1] = true) ∧ Below w2.heap.size w2 wr) (fun i _ => m - (intOf i).toNat)
            case atStart => exact ⟨0, Nat.zero_le _, rfl, fun i _ h => by omega, fun i _ h => by omega, Below.refl _ _⟩
            case round =>
              obtain ⟨k, hk, rfl, hall, hord, hb⟩ := hrel
              have BB := Lib.hid hb; have HA := Lib.hid hall; have HO := Lib.hid hord
              clear hall hord hb
              by_cases hkl : k < m
              · have hkl' : (k : Int) < m := by omega
                have hk1 : k < gn.length := by rw [HN.out]; exact hkl
                have hr := thenBelow B2.out BB.out
                have HR := Lib.hid hr
                obtain ⟨b1, o1, hpe, q1⟩ := drow_at (OKX.out wr hr) hk1
                subst hpe
                have d0 := q1 0 _ rfl
                have d1 := q1 1 _ rfl
                have Q1 := Lib.hid q1
                clear q1 hr
                obtain ⟨⟨x1, x2⟩, hx⟩ : ∃ x, gn[k] = x := ⟨_, rfl⟩
                have HX := Lib.hid hx
                rw [hx] at Q1 d0 d1
                clear hx
                simp only [Nat.add_zero] at Q1 d0 d1
                have n6 := heap_alloc_new wr (.cells #[.int .i64 x1, .int .i64 x2] 28)
                have b6 := below_alloc wr (.cells #[.int .i64 x1, .int .i64 x2] 28)
                have N6 := Lib.hid (show (wr.alloc (.cells #[.int .i64 x1, .int .i64 x2] 28)).drew.rangeAt wr.heap.size 0 [.int .i64 x1, .int .i64 x2] from range_of_block n6)
                have Y6 := Lib.hid (range_below R2.out (to_drew (thenBelow BB.out b6)))
                have B6 := Lib.hid (to_drew (thenBelow BB.out b6))
                have L6 := Lib.hid (OKX.out _ (to_drew (thenBelow HR.out b6)))
                have SZ : ∀ z1 z2 : Int, (Tryd.prog.info? 28).map (·.size) = some [Value.int .i64 z1, .int .i64 z2].length := fun z1 z2 => by kernel_rfl
                clear n6 b6
                go_wp2_with fail
                rename_i K2 hK2
                generalize hW : wr.alloc (.cells #[.int .i64 x1, .int .i64 x2] 28) = W6 at N6 Y6 B6 L6 ⊢
                generalize hG : wr.heap.size = G6 at N6 ⊢
                clear hW hG d0 d1
                cases hv : vldB x1 x2 with
                | false =>
                  have VA := Lib.hid (fun W : World => refValid_is x1 x2 W)
                  rw [hv] at VA
                  have hf := GB.out (go_bad hk1 (.inl (by rw [HX.out]; exact hv)))
                  subst hf
                  clear hv
                  refine rg_calm (by kernel_rfl) rfl (S := fun U => U.rangeAt G6 0 [.int .i64 x1, .int .i64 x2] ∧ U.rangeAt g1 0 (EvP.cells ⟨⟨r, n, t, kd, d, fl, tx, gn⟩, some ⟨b1, o1, none⟩, gc⟩) ∧ U.rangeAt b1 0 [] ∧ Below w2.heap.size w2 U) ?_
                  have m0 := And.intro N6.out (And.intro Y6.out (And.intro (range_nil W6 b1 0) B6.out))
                  have keep : ∀ U U' : World, Below U.heap.size U U' → U.rangeAt G6 0 [.int .i64 x1, .int .i64 x2] ∧ U.rangeAt g1 0 (EvP.cells ⟨⟨r, n, t, kd, d, fl, tx, gn⟩, some ⟨b1, o1, none⟩, gc⟩) ∧ U.rangeAt b1 0 [] ∧ Below w2.heap.size w2 U → U'.rangeAt G6 0 [.int .i64 x1, .int .i64 x2] ∧ U'.rangeAt g1 0 (EvP.cells ⟨⟨r, n, t, kd, d, fl, tx, gn⟩, some ⟨b1, o1, none⟩, gc⟩) ∧ U'.rangeAt b1 0 [] ∧ Below w2.heap.size w2 U' := fun U U' hb h => ⟨range_below h.1 hb, range_below h.2.1 hb, range_below h.2.2.1 hb, thenBelow h.2.2.2 hb⟩
                  refine rgd_pureS 0 (some 39) rfl rfl (.agg #[.int .i64 x1, .int .i64 x2]) (by kernel_rfl) (by kernel_rfl) (by kernel_rfl) (fun _ _ _ _ h => h) (by kernel_rfl) (fun U hU => exec_gload 28 _ rfl G6 (0) (by kernel_rfl) _ hU.1 Tryd.underlying28 rfl (SZ x1 x2)) m0 ?_
                  refine rgd_call 1 (some 40) (by kernel_rfl) rfl rfl (by kernel_rfl) 48 (#[.agg (dcs x1 x2)]) (by kernel_rfl) (VA.out _) ?_
                  rintro _ U1 ⟨rfl, bU1⟩
                  have m1 := keep _ _ bU1 m0
                  refine ⟨_, rfl, m1, ?_⟩
                  refine rgd_pure 2 (some 41) rfl rfl (.bool true) (by kernel_rfl) (by kernel_rfl) (by kernel_rfl) (fun _ _ _ _ h => h) (by kernel_rfl) (fun w => by kernel_rfl) m1 ?_
                  refine rgd_pure 3 (some 42) rfl rfl (.bool true) (by kernel_rfl) (by kernel_rfl) (by kernel_rfl) (fun _ _ _ _ h => h) (by kernel_rfl) (fun w => by kernel_rfl) m1 ?_
                  refine rgd_skip 4 (some 43) rfl rfl (by kernel_rfl) (by kernel_rfl) (by kernel_rfl) (fun _ _ _ _ h => h) (by kernel_rfl) m1 ?_
                  refine rgd_skip 5 (some 44) rfl rfl (by kernel_rfl) (by kernel_rfl) (by kernel_rfl) (fun _ _ _ _ h => h) (by kernel_rfl) m1 ?_
                  refine rgd_skip 6 (some 45) rfl rfl (by kernel_rfl) (by kernel_rfl) (by kernel_rfl) (fun _ _ _ _ h => h) (by kernel_rfl) m1 ?_
                  refine rgd_skip 7 (some 46) rfl rfl (by kernel_rfl) (by kernel_rfl) (by kernel_rfl) (fun _ _ _ _ h => h) (by kernel_rfl) m1 ?_
                  refine rgd_pure 8 (some 47) rfl rfl (.bool true) (by kernel_rfl) (by kernel_rfl) (by kernel_rfl) (fun _ _ _ _ h => h) (by kernel_rfl) (fun w => by kernel_rfl) m1 ?_
                  refine rgd_pure 9 (some 48) rfl rfl (.bool true) (by kernel_rfl) (by kernel_rfl) (by kernel_rfl) (fun _ _ _ _ h => h) (by kernel_rfl) (fun w => by kernel_rfl) m1 ?_
                  refine rgd_skip 10 (some 49) rfl rfl (by kernel_rfl) (by kernel_rfl) (by kernel_rfl) (fun _ _ _ _ h => h) (by kernel_rfl) m1 ?_
                  refine rgd_skip 11 (some 50) rfl rfl (by kernel_rfl) (by kernel_rfl) (by kernel_rfl) (fun _ _ _ _ h => h) (by kernel_rfl) m1 ?_
                  refine rgd_skip 12 (some 51) rfl rfl (by kernel_rfl) (by kernel_rfl) (by kernel_rfl) (fun _ _ _ _ h => h) (by kernel_rfl) m1 ?_
                  refine rgd_skip 13 (some 52) rfl rfl (by kernel_rfl) (by kernel_rfl) (by kernel_rfl) (fun _ _ _ _ h => h) (by kernel_rfl) m1 ?_
                  refine rgd_skip 14 (some 53) rfl rfl (by kernel_rfl) (by kernel_rfl) (by kernel_rfl) (fun _ _ _ _ h => h) (by kernel_rfl) m1 ?_
                  refine rgd_skip 15 (some 54) rfl rfl (by kernel_rfl) (by kernel_rfl) (by kernel_rfl) (fun _ _ _ _ h => h) (by kernel_rfl) m1 ?_
                  refine rgd_skip 16 (some 55) rfl rfl (by kernel_rfl) (by kernel_rfl) (by kernel_rfl) (fun _ _ _ _ h => h) (by kernel_rfl) m1 ?_
                  refine rgd_skip 17 (some 56) rfl rfl (by kernel_rfl) (by kernel_rfl) (by kernel_rfl) (fun _ _ _ _ h => h) (by kernel_rfl) m1 ?_
                  refine rgd_skip 18 (some 57) rfl rfl (by kernel_rfl) (by kernel_rfl) (by kernel_rfl) (fun _ _ _ _ h => h) (by kernel_rfl) m1 ?_
                  refine rgd_skip 19 (some 58) rfl rfl (by kernel_rfl) (by kernel_rfl) (by kernel_rfl) (fun _ _ _ _ h => h) (by kernel_rfl) m1 ?_
                  refine rgd_skip 20 (some 59) rfl rfl (by kernel_rfl) (by kernel_rfl) (by kernel_rfl) (fun _ _ _ _ h => h) (by kernel_rfl) m1 ?_
                  refine rgd_skip 21 (some 60) rfl rfl (by kernel_rfl) (by kernel_rfl) (by kernel_rfl) (fun _ _ _ _ h => h) (by kernel_rfl) m1 ?_
                  refine rgd_skip 22 (some 61) rfl rfl (by kernel_rfl) (by kernel_rfl) (by kernel_rfl) (fun _ _ _ _ h => h) (by kernel_rfl) m1 ?_
                  refine rgd_pure 23 (some 62) rfl rfl (.bool true) (by kernel_rfl) (by kernel_rfl) (by kernel_rfl) (fun _ _ _ _ h => h) (by kernel_rfl) (fun w => by kernel_rfl) m1 ?_
                  have BU := Lib.hid m1.2.2.2
                  have KE : K2 { tmps := #[.agg (EvP.cells ⟨⟨r, n, t, kd, d, fl, tx, gn⟩, some ⟨b1, o1, none⟩, gc⟩).toArray, .pointer (some ⟨g1, 0, none⟩), u2, .int .i64 (k : Int), .pointer (some ⟨G6, 0, none⟩), .pointer (some ⟨g1, 0, none⟩), .agg #[.int .i64 r, .int .i64 n], .bool true, .bool false, .bool false, .pointer (some ⟨g1, 2, none⟩), .int .i64 t, .bool (decide (t < 1)), .bool (decide (t < 1)), .bool (decide (t < 1)), .pointer (some ⟨g1, 2, none⟩), .int .i64 t, .bool (decide (1099511627776 < t)), .bool (decide (t < 1) || decide (1099511627776 < t)), .bool (decide (t < 1) || decide (1099511627776 < t)), .pointer (some ⟨g1, 4, none⟩), .string d, .bool true, .bool false, .bool (decide (t < 1) || decide (1099511627776 < t)), .bool (decide (t < 1) || decide (1099511627776 < t)), .pointer (some ⟨g1, 7, none⟩), .slice (some ⟨b1, o1, none⟩) m gc, .int .i64 (m : Int), .bool (decide (120 < (m : Int))), .bool (decide (t < 1) || decide (1099511627776 < t) || decide (120 < (m : Int))), .pointer (some ⟨g1, 7, none⟩), .slice (some ⟨b1, o1, none⟩) m gc, .int .i64 (m : Int), .int .i64 (k : Int), .bool true, .int .i64 (k : Int), .pointer (some ⟨b1, o1 + k * 2, none⟩), .agg #[.int .i64 x1, .int .i64 x2], .agg #[.int .i64 x1, .int .i64 x2], .bool false, .bool true, .bool true, undef, undef, undef, undef, .bool true, .bool true, undef, undef, undef, undef, undef, undef, undef, undef, undef, undef, undef, undef, undef, .bool true, u63, undef, undef, undef, undef, undef, undef, undef, undef, undef, undef, undef, undef, undef, undef, undef, undef, undef, undef, undef, undef, undef], defers := [] } U1 := by
                    refine hK2 _ _ ?_
                    clear hK2 keep m0 m1
                    go_wp2
                    go_ret
                    exact ⟨rfl, thenBelow B2.out BU.out⟩
                  exact wpAnyH_done (by kernel_rfl) (Eq.mp (by kernel_rfl) KE) _
                | true =>
                  have VA := Lib.hid (fun W : World => refValid_is x1 x2 W)
                  rw [hv] at VA
                  have HVX := Lib.hid hv
                  clear hv
                  by_cases he : ((x1, x2) : Dt) = (r, n)
                  · have EQ := Lib.hid ((eqDt_iff _ _).2 he)
                    have hf := GB.out (go_bad hk1 (.inr (by rw [HX.out]; exact he)))
                    subst hf
                    clear he
                    refine rg_calm (by kernel_rfl) rfl (S := fun U => U.rangeAt G6 0 [.int .i64 x1, .int .i64 x2] ∧ U.rangeAt g1 0 (EvP.cells ⟨⟨r, n, t, kd, d, fl, tx, gn⟩, some ⟨b1, o1, none⟩, gc⟩) ∧ U.rangeAt b1 0 [] ∧ Below w2.heap.size w2 U) ?_
                    have m0 := And.intro N6.out (And.intro Y6.out (And.intro (range_nil W6 b1 0) B6.out))
                    have keep : ∀ U U' : World, Below U.heap.size U U' → U.rangeAt G6 0 [.int .i64 x1, .int .i64 x2] ∧ U.rangeAt g1 0 (EvP.cells ⟨⟨r, n, t, kd, d, fl, tx, gn⟩, some ⟨b1, o1, none⟩, gc⟩) ∧ U.rangeAt b1 0 [] ∧ Below w2.heap.size w2 U → U'.rangeAt G6 0 [.int .i64 x1, .int .i64 x2] ∧ U'.rangeAt g1 0 (EvP.cells ⟨⟨r, n, t, kd, d, fl, tx, gn⟩, some ⟨b1, o1, none⟩, gc⟩) ∧ U'.rangeAt b1 0 [] ∧ Below w2.heap.size w2 U' := fun U U' hb h => ⟨range_below h.1 hb, range_below h.2.1 hb, range_below h.2.2.1 hb, thenBelow h.2.2.2 hb⟩
                    refine rgd_pureS 0 (some 39) rfl rfl (.agg #[.int .i64 x1, .int .i64 x2]) (by kernel_rfl) (by kernel_rfl) (by kernel_rfl) (fun _ _ _ _ h => h) (by kernel_rfl) (fun U hU => exec_gload 28 _ rfl G6 (0) (by kernel_rfl) _ hU.1 Tryd.underlying28 rfl (SZ x1 x2)) m0 ?_
                    refine rgd_call 1 (some 40) (by kernel_rfl) rfl rfl (by kernel_rfl) 48 (#[.agg (dcs x1 x2)]) (by kernel_rfl) (VA.out _) ?_
                    rintro _ U1 ⟨rfl, bU1⟩
                    have m1 := keep _ _ bU1 m0
                    refine ⟨_, rfl, m1, ?_⟩
                    refine rgd_pure 2 (some 41) rfl rfl (.bool false) (by kernel_rfl) (by kernel_rfl) (by kernel_rfl) (fun _ _ _ _ h => h) (by kernel_rfl) (fun w => by kernel_rfl) m1 ?_
                    refine rgd_pure 3 (some 42) rfl rfl (.bool false) (by kernel_rfl) (by kernel_rfl) (by kernel_rfl) (fun _ _ _ _ h => h) (by kernel_rfl) (fun w => by kernel_rfl) m1 ?_
                    refine rgd_pureS 4 (some 43) rfl rfl (.agg #[.int .i64 x1, .int .i64 x2]) (by kernel_rfl) (by kernel_rfl) (by kernel_rfl) (fun _ _ _ _ h => h) (by kernel_rfl) (fun U hU => exec_gload 28 _ rfl G6 (0) (by kernel_rfl) _ hU.1 Tryd.underlying28 rfl (SZ x1 x2)) m1 ?_
                    refine rgd_pure 5 (some 44) rfl rfl (.pointer (some ⟨g1, 0, none⟩)) (by kernel_rfl) (by kernel_rfl) (by kernel_rfl) (fun _ _ _ _ h => h) (by kernel_rfl) (fun w => by kernel_rfl) m1 ?_
                    refine rgd_pureS 6 (some 45) rfl rfl (.agg #[.int .i64 r, .int .i64 n]) (by kernel_rfl) (by kernel_rfl) (by kernel_rfl) (fun _ _ _ _ h => h) (by kernel_rfl) (fun U hU => exec_gload 28 _ rfl g1 (0) (by kernel_rfl) _ (ev_dot (x := ⟨⟨r, n, t, kd, d, fl, tx, gn⟩, some ⟨b1, o1, none⟩, gc⟩) hU.2.1) Tryd.underlying28 rfl (SZ r n)) m1 ?_
                    refine rgd_pure 7 (some 46) rfl rfl (.bool true) (by kernel_rfl) (by kernel_rfl) (by kernel_rfl) (fun _ _ _ _ h => h) (by kernel_rfl) (exec_eqlE _ _ _ rfl (x1, x2) (r, n) true EQ.out (by kernel_rfl) (by kernel_rfl)) m1 ?_
                    refine rgd_pure 8 (some 47) rfl rfl (.bool true) (by kernel_rfl) (by kernel_rfl) (by kernel_rfl) (fun _ _ _ _ h => h) (by kernel_rfl) (fun w => by kernel_rfl) m1 ?_
                    refine rgd_pure 9 (some 48) rfl rfl (.bool true) (by kernel_rfl) (by kernel_rfl) (by kernel_rfl) (fun _ _ _ _ h => h) (by kernel_rfl) (fun w => by kernel_rfl) m1 ?_
                    refine rgd_skip 10 (some 49) rfl rfl (by kernel_rfl) (by kernel_rfl) (by kernel_rfl) (fun _ _ _ _ h => h) (by kernel_rfl) m1 ?_
                    refine rgd_skip 11 (some 50) rfl rfl (by kernel_rfl) (by kernel_rfl) (by kernel_rfl) (fun _ _ _ _ h => h) (by kernel_rfl) m1 ?_
                    refine rgd_skip 12 (some 51) rfl rfl (by kernel_rfl) (by kernel_rfl) (by kernel_rfl) (fun _ _ _ _ h => h) (by kernel_rfl) m1 ?_
                    refine rgd_skip 13 (some 52) rfl rfl (by kernel_rfl) (by kernel_rfl) (by kernel_rfl) (fun _ _ _ _ h => h) (by kernel_rfl) m1 ?_
                    refine rgd_skip 14 (some 53) rfl rfl (by kernel_rfl) (by kernel_rfl) (by kernel_rfl) (fun _ _ _ _ h => h) (by kernel_rfl) m1 ?_
                    refine rgd_skip 15 (some 54) rfl rfl (by kernel_rfl) (by kernel_rfl) (by kernel_rfl) (fun _ _ _ _ h => h) (by kernel_rfl) m1 ?_
                    refine rgd_skip 16 (some 55) rfl rfl (by kernel_rfl) (by kernel_rfl) (by kernel_rfl) (fun _ _ _ _ h => h) (by kernel_rfl) m1 ?_
                    refine rgd_skip 17 (some 56) rfl rfl (by kernel_rfl) (by kernel_rfl) (by kernel_rfl) (fun _ _ _ _ h => h) (by kernel_rfl) m1 ?_
                    refine rgd_skip 18 (some 57) rfl rfl (by kernel_rfl) (by kernel_rfl) (by kernel_rfl) (fun _ _ _ _ h => h) (by kernel_rfl) m1 ?_
                    refine rgd_skip 19 (some 58) rfl rfl (by kernel_rfl) (by kernel_rfl) (by kernel_rfl) (fun _ _ _ _ h => h) (by kernel_rfl) m1 ?_
                    refine rgd_skip 20 (some 59) rfl rfl (by kernel_rfl) (by kernel_rfl) (by kernel_rfl) (fun _ _ _ _ h => h) (by kernel_rfl) m1 ?_
                    refine rgd_skip 21 (some 60) rfl rfl (by kernel_rfl) (by kernel_rfl) (by kernel_rfl) (fun _ _ _ _ h => h) (by kernel_rfl) m1 ?_
                    refine rgd_skip 22 (some 61) rfl rfl (by kernel_rfl) (by kernel_rfl) (by kernel_rfl) (fun _ _ _ _ h => h) (by kernel_rfl) m1 ?_
                    refine rgd_pure 23 (some 62) rfl rfl (.bool true) (by kernel_rfl) (by kernel_rfl) (by kernel_rfl) (fun _ _ _ _ h => h) (by kernel_rfl) (fun w => by kernel_rfl) m1 ?_
                    have BU := Lib.hid m1.2.2.2
                    have KE : K2 { tmps := #[.agg (EvP.cells ⟨⟨r, n, t, kd, d, fl, tx, gn⟩, some ⟨b1, o1, none⟩, gc⟩).toArray, .pointer (some ⟨g1, 0, none⟩), u2, .int .i64 (k : Int), .pointer (some ⟨G6, 0, none⟩), .pointer (some ⟨g1, 0, none⟩), .agg #[.int .i64 r, .int .i64 n], .bool true, .bool false, .bool false, .pointer (some ⟨g1, 2, none⟩), .int .i64 t, .bool (decide (t < 1)), .bool (decide (t < 1)), .bool (decide (t < 1)), .pointer (some ⟨g1, 2, none⟩), .int .i64 t, .bool (decide (1099511627776 < t)), .bool (decide (t < 1) || decide (1099511627776 < t)), .bool (decide (t < 1) || decide (1099511627776 < t)), .pointer (some ⟨g1, 4, none⟩), .string d, .bool true, .bool false, .bool (decide (t < 1) || decide (1099511627776 < t)), .bool (decide (t < 1) || decide (1099511627776 < t)), .pointer (some ⟨g1, 7, none⟩), .slice (some ⟨b1, o1, none⟩) m gc, .int .i64 (m : Int), .bool (decide (120 < (m : Int))), .bool (decide (t < 1) || decide (1099511627776 < t) || decide (120 < (m : Int))), .pointer (some ⟨g1, 7, none⟩), .slice (some ⟨b1, o1, none⟩) m gc, .int .i64 (m : Int), .int .i64 (k : Int), .bool true, .int .i64 (k : Int), .pointer (some ⟨b1, o1 + k * 2, none⟩), .agg #[.int .i64 x1, .int .i64 x2], .agg #[.int .i64 x1, .int .i64 x2], .bool true, .bool false, .bool false, .agg #[.int .i64 x1, .int .i64 x2], .pointer (some ⟨g1, 0, none⟩), .agg #[.int .i64 r, .int .i64 n], .bool true, .bool true, .bool true, undef, undef, undef, undef, undef, undef, undef, undef, undef, undef, undef, undef, undef, .bool true, u63, undef, undef, undef, undef, undef, undef, undef, undef, undef, undef, undef, undef, undef, undef, undef, undef, undef, undef, undef, undef, undef], defers := [] } U1 := by
                      refine hK2 _ _ ?_
                      clear hK2 keep m0 m1
                      go_wp2
                      go_ret
                      exact ⟨rfl, thenBelow B2.out BU.out⟩
                    exact wpAnyH_done (by kernel_rfl) (Eq.mp (by kernel_rfl) KE) _
                  · have EQ := Lib.hid (eqDt_no he)
                    have NA : Hid (∀ i (h : i < gn.length), i < k + 1 → vl gn[i] = true ∧ gn[i] ≠ (r, n)) := Lib.hid fun i h hi => by
                      rcases Nat.lt_or_ge i k with h3 | h3
                      · exact HA.out i h h3
                      · obtain rfl : i = k := by omega
                        rw [HX.out]; exact ⟨HVX.out, he⟩
                    clear he
                    by_cases hk0 : k = 0
                    · have GK : Hid (decide ((k : Int) > 0) = false) := Lib.hid (decide_eq_false (by omega))
                      have NO : Hid (∀ i (h : i + 1 < gn.length), i + 1 < k + 1 → ltD gn[i] gn[i + 1] = true) := Lib.hid fun i h hi => by omega
                      refine rg_calm (by kernel_rfl) rfl (S := fun U => U.rangeAt G6 0 [.int .i64 x1, .int .i64 x2] ∧ U.rangeAt g1 0 (EvP.cells ⟨⟨r, n, t, kd, d, fl, tx, gn⟩, some ⟨b1, o1, none⟩, gc⟩) ∧ U.rangeAt b1 0 [] ∧ Below w2.heap.size w2 U) ?_
                      have m0 := And.intro N6.out (And.intro Y6.out (And.intro (range_nil W6 b1 0) B6.out))
                      have keep : ∀ U U' : World, Below U.heap.size U U' → U.rangeAt G6 0 [.int .i64 x1, .int .i64 x2] ∧ U.rangeAt g1 0 (EvP.cells ⟨⟨r, n, t, kd, d, fl, tx, gn⟩, some ⟨b1, o1, none⟩, gc⟩) ∧ U.rangeAt b1 0 [] ∧ Below w2.heap.size w2 U → U'.rangeAt G6 0 [.int .i64 x1, .int .i64 x2] ∧ U'.rangeAt g1 0 (EvP.cells ⟨⟨r, n, t, kd, d, fl, tx, gn⟩, some ⟨b1, o1, none⟩, gc⟩) ∧ U'.rangeAt b1 0 [] ∧ Below w2.heap.size w2 U' := fun U U' hb h => ⟨range_below h.1 hb, range_below h.2.1 hb, range_below h.2.2.1 hb, thenBelow h.2.2.2 hb⟩
                      refine rgd_pureS 0 (some 39) rfl rfl (.agg #[.int .i64 x1, .int .i64 x2]) (by kernel_rfl) (by kernel_rfl) (by kernel_rfl) (fun _ _ _ _ h => h) (by kernel_rfl) (fun U hU => exec_gload 28 _ rfl G6 (0) (by kernel_rfl) _ hU.1 Tryd.underlying28 rfl (SZ x1 x2)) m0 ?_
                      refine rgd_call 1 (some 40) (by kernel_rfl) rfl rfl (by kernel_rfl) 48 (#[.agg (dcs x1 x2)]) (by kernel_rfl) (VA.out _) ?_
                      rintro _ U1 ⟨rfl, bU1⟩
                      have m1 := keep _ _ bU1 m0
                      refine ⟨_, rfl, m1, ?_⟩
                      refine rgd_pure 2 (some 41) rfl rfl (.bool false) (by kernel_rfl) (by kernel_rfl) (by kernel_rfl) (fun _ _ _ _ h => h) (by kernel_rfl) (fun w => by kernel_rfl) m1 ?_
                      refine rgd_pure 3 (some 42) rfl rfl (.bool false) (by kernel_rfl) (by kernel_rfl) (by kernel_rfl) (fun _ _ _ _ h => h) (by kernel_rfl) (fun w => by kernel_rfl) m1 ?_
                      refine rgd_pureS 4 (some 43) rfl rfl (.agg #[.int .i64 x1, .int .i64 x2]) (by kernel_rfl) (by kernel_rfl) (by kernel_rfl) (fun _ _ _ _ h => h) (by kernel_rfl) (fun U hU => exec_gload 28 _ rfl G6 (0) (by kernel_rfl) _ hU.1 Tryd.underlying28 rfl (SZ x1 x2)) m1 ?_
                      refine rgd_pure 5 (some 44) rfl rfl (.pointer (some ⟨g1, 0, none⟩)) (by kernel_rfl) (by kernel_rfl) (by kernel_rfl) (fun _ _ _ _ h => h) (by kernel_rfl) (fun w => by kernel_rfl) m1 ?_
                      refine rgd_pureS 6 (some 45) rfl rfl (.agg #[.int .i64 r, .int .i64 n]) (by kernel_rfl) (by kernel_rfl) (by kernel_rfl) (fun _ _ _ _ h => h) (by kernel_rfl) (fun U hU => exec_gload 28 _ rfl g1 (0) (by kernel_rfl) _ (ev_dot (x := ⟨⟨r, n, t, kd, d, fl, tx, gn⟩, some ⟨b1, o1, none⟩, gc⟩) hU.2.1) Tryd.underlying28 rfl (SZ r n)) m1 ?_
                      refine rgd_pure 7 (some 46) rfl rfl (.bool false) (by kernel_rfl) (by kernel_rfl) (by kernel_rfl) (fun _ _ _ _ h => h) (by kernel_rfl) (exec_eqlE _ _ _ rfl (x1, x2) (r, n) false EQ.out (by kernel_rfl) (by kernel_rfl)) m1 ?_
                      refine rgd_pure 8 (some 47) rfl rfl (.bool false) (by kernel_rfl) (by kernel_rfl) (by kernel_rfl) (fun _ _ _ _ h => h) (by kernel_rfl) (fun w => by kernel_rfl) m1 ?_
                      refine rgd_pure 9 (some 48) rfl rfl (.bool false) (by kernel_rfl) (by kernel_rfl) (by kernel_rfl) (fun _ _ _ _ h => h) (by kernel_rfl) (fun w => by kernel_rfl) m1 ?_
                      refine rgd_pure 10 (some 49) rfl rfl (.int .i64 (k : Int)) (by kernel_rfl) (by kernel_rfl) (by kernel_rfl) (fun _ _ _ _ h => h) (by kernel_rfl) (fun w => by kernel_rfl) m1 ?_
                      refine rgd_pure 11 (some 50) rfl rfl (.bool false) (by kernel_rfl) (by kernel_rfl) (by kernel_rfl) (fun _ _ _ _ h => h) (by kernel_rfl) (exec_gtrB _ _ _ _ rfl (k : Int) 0 false GK.out (by kernel_rfl) (by kernel_rfl)) m1 ?_
                      refine rgd_pure 12 (some 51) rfl rfl (.bool false) (by kernel_rfl) (by kernel_rfl) (by kernel_rfl) (fun _ _ _ _ h => h) (by kernel_rfl) (fun w => by kernel_rfl) m1 ?_
                      refine rgd_skip 13 (some 52) rfl rfl (by kernel_rfl) (by kernel_rfl) (by kernel_rfl) (fun _ _ _ _ h => h) (by kernel_rfl) m1 ?_
                      refine rgd_skip 14 (some 53) rfl rfl (by kernel_rfl) (by kernel_rfl) (by kernel_rfl) (fun _ _ _ _ h => h) (by kernel_rfl) m1 ?_
                      refine rgd_skip 15 (some 54) rfl rfl (by kernel_rfl) (by kernel_rfl) (by kernel_rfl) (fun _ _ _ _ h => h) (by kernel_rfl) m1 ?_
                      refine rgd_skip 16 (some 55) rfl rfl (by kernel_rfl) (by kernel_rfl) (by kernel_rfl) (fun _ _ _ _ h => h) (by kernel_rfl) m1 ?_
                      refine rgd_skip 17 (some 56) rfl rfl (by kernel_rfl) (by kernel_rfl) (by kernel_rfl) (fun _ _ _ _ h => h) (by kernel_rfl) m1 ?_
                      refine rgd_skip 18 (some 57) rfl rfl (by kernel_rfl) (by kernel_rfl) (by kernel_rfl) (fun _ _ _ _ h => h) (by kernel_rfl) m1 ?_
                      refine rgd_skip 19 (some 58) rfl rfl (by kernel_rfl) (by kernel_rfl) (by kernel_rfl) (fun _ _ _ _ h => h) (by kernel_rfl) m1 ?_
                      refine rgd_skip 20 (some 59) rfl rfl (by kernel_rfl) (by kernel_rfl) (by kernel_rfl) (fun _ _ _ _ h => h) (by kernel_rfl) m1 ?_
                      refine rgd_skip 21 (some 60) rfl rfl (by kernel_rfl) (by kernel_rfl) (by kernel_rfl) (fun _ _ _ _ h => h) (by kernel_rfl) m1 ?_
                      refine rgd_pure 22 (some 61) rfl rfl (.bool false) (by kernel_rfl) (by kernel_rfl) (by kernel_rfl) (fun _ _ _ _ h => h) (by kernel_rfl) (fun w => by kernel_rfl) m1 ?_
                      refine rgd_pure 23 (some 62) rfl rfl (.bool false) (by kernel_rfl) (by kernel_rfl) (by kernel_rfl) (fun _ _ _ _ h => h) (by kernel_rfl) (fun w => by kernel_rfl) m1 ?_
                      have BU := Lib.hid m1.2.2.2
                      have KE : K2 { tmps := #[.agg (EvP.cells ⟨⟨r, n, t, kd, d, fl, tx, gn⟩, some ⟨b1, o1, none⟩, gc⟩).toArray, .pointer (some ⟨g1, 0, none⟩), u2, .int .i64 (k : Int), .pointer (some ⟨G6, 0, none⟩), .pointer (some ⟨g1, 0, none⟩), .agg #[.int .i64 r, .int .i64 n], .bool true, .bool false, .bool false, .pointer (some ⟨g1, 2, none⟩), .int .i64 t, .bool (decide (t < 1)), .bool (decide (t < 1)), .bool (decide (t < 1)), .pointer (some ⟨g1, 2, none⟩), .int .i64 t, .bool (decide (1099511627776 < t)), .bool (decide (t < 1) || decide (1099511627776 < t)), .bool (decide (t < 1) || decide (1099511627776 < t)), .pointer (some ⟨g1, 4, none⟩), .string d, .bool true, .bool false, .bool (decide (t < 1) || decide (1099511627776 < t)), .bool (decide (t < 1) || decide (1099511627776 < t)), .pointer (some ⟨g1, 7, none⟩), .slice (some ⟨b1, o1, none⟩) m gc, .int .i64 (m : Int), .bool (decide (120 < (m : Int))), .bool (decide (t < 1) || decide (1099511627776 < t) || decide (120 < (m : Int))), .pointer (some ⟨g1, 7, none⟩), .slice (some ⟨b1, o1, none⟩) m gc, .int .i64 (m : Int), .int .i64 (k : Int), .bool true, .int .i64 (k : Int), .pointer (some ⟨b1, o1 + k * 2, none⟩), .agg #[.int .i64 x1, .int .i64 x2], .agg #[.int .i64 x1, .int .i64 x2], .bool true, .bool false, .bool false, .agg #[.int .i64 x1, .int .i64 x2], .pointer (some ⟨g1, 0, none⟩), .agg #[.int .i64 r, .int .i64 n], .bool false, .bool false, .bool false, .int .i64 (k : Int), .bool false, .bool false, undef, undef, undef, undef, undef, undef, undef, undef, undef, .bool false, .bool false, u63, undef, undef, undef, undef, undef, undef, undef, undef, undef, undef, undef, undef, undef, undef, undef, undef, undef, undef, undef, undef, undef], defers := [] } U1 := by
                        refine hK2 _ _ ?_
                        clear hK2 keep m0 m1
                        go_wp2
                        go_roundw
                        case rel => exact ⟨k + 1, by omega, by go_num, NA.out, NO.out, BU.out⟩
                        case measure => simp [intOf]; omega
                      exact wpAnyH_done (by kernel_rfl) (Eq.mp (by kernel_rfl) KE) _
                    · have GK : Hid (decide ((k : Int) > 0) = true) := Lib.hid (decide_eq_true (by omega))
                      obtain ⟨j, hj⟩ : ∃ j, k = j + 1 := ⟨k - 1, by omega⟩
                      have hjl : j < gn.length := by omega
                      have SB : Hid (IntKind.i64.wrap ((k : Int) - 1) = (j : Int)) := Lib.hid (by rw [IntWalk.i64_in _ (by omega)]; omega)
                      obtain ⟨b2, o2, hpe, q1⟩ := drow_at L6.out hjl
                      have hpe2 : b2 = b1 ∧ o2 = o1 := by injection hpe with hpe; injection hpe with h1 h2; exact ⟨h1.symm, h2.symm⟩
                      rw [hpe2.1, hpe2.2] at q1
                      obtain ⟨⟨z1, z2⟩, hz⟩ : ∃ z, gn[j] = z := ⟨_, rfl⟩
                      have HZ := Lib.hid hz
                      rw [hz] at q1
                      have Q3 := Lib.hid q1
                      clear hz q1 hpe hpe2
                      simp only at Q3
                      have HLT : Hid (ltD gn[j] gn[k] = lessD z1 z2 x1 x2) := Lib.hid (by rw [HZ.out, HX.out]; rfl)
                      have LE := Lib.hid (fun W : World => less_is z1 z2 x1 x2 W)
                      cases hlt : lessD z1 z2 x1 x2 with
                      | false =>
                        rw [hlt] at LE
                        have hf := GB.out (by
                          refine go_order (k := j) (by omega) ?_
                          have h1 := HLT.out
                          rw [hlt] at h1
                          simpa only [hj] using h1)
                        subst hf
                        clear hlt hj HLT
                        refine rg_calm (by kernel_rfl) rfl (S := fun U => U.rangeAt G6 0 [.int .i64 x1, .int .i64 x2] ∧ U.rangeAt g1 0 (EvP.cells ⟨⟨r, n, t, kd, d, fl, tx, gn⟩, some ⟨b1, o1, none⟩, gc⟩) ∧ U.rangeAt b1 (o1 + j * 2) [.int .i64 z1, .int .i64 z2] ∧ Below w2.heap.size w2 U) ?_
                        have m0 := And.intro N6.out (And.intro Y6.out (And.intro Q3.out B6.out))
                        have keep : ∀ U U' : World, Below U.heap.size U U' → U.rangeAt G6 0 [.int .i64 x1, .int .i64 x2] ∧ U.rangeAt g1 0 (EvP.cells ⟨⟨r, n, t, kd, d, fl, tx, gn⟩, some ⟨b1, o1, none⟩, gc⟩) ∧ U.rangeAt b1 (o1 + j * 2) [.int .i64 z1, .int .i64 z2] ∧ Below w2.heap.size w2 U → U'.rangeAt G6 0 [.int .i64 x1, .int .i64 x2] ∧ U'.rangeAt g1 0 (EvP.cells ⟨⟨r, n, t, kd, d, fl, tx, gn⟩, some ⟨b1, o1, none⟩, gc⟩) ∧ U'.rangeAt b1 (o1 + j * 2) [.int .i64 z1, .int .i64 z2] ∧ Below w2.heap.size w2 U' := fun U U' hb h => ⟨range_below h.1 hb, range_below h.2.1 hb, range_below h.2.2.1 hb, thenBelow h.2.2.2 hb⟩
                        refine rgd_pureS 0 (some 39) rfl rfl (.agg #[.int .i64 x1, .int .i64 x2]) (by kernel_rfl) (by kernel_rfl) (by kernel_rfl) (fun _ _ _ _ h => h) (by kernel_rfl) (fun U hU => exec_gload 28 _ rfl G6 (0) (by kernel_rfl) _ hU.1 Tryd.underlying28 rfl (SZ x1 x2)) m0 ?_
                        refine rgd_call 1 (some 40) (by kernel_rfl) rfl rfl (by kernel_rfl) 48 (#[.agg (dcs x1 x2)]) (by kernel_rfl) (VA.out _) ?_
                        rintro _ U1 ⟨rfl, bU1⟩
                        have m1 := keep _ _ bU1 m0
                        refine ⟨_, rfl, m1, ?_⟩
                        refine rgd_pure 2 (some 41) rfl rfl (.bool false) (by kernel_rfl) (by kernel_rfl) (by kernel_rfl) (fun _ _ _ _ h => h) (by kernel_rfl) (fun w => by kernel_rfl) m1 ?_
                        refine rgd_pure 3 (some 42) rfl rfl (.bool false) (by kernel_rfl) (by kernel_rfl) (by kernel_rfl) (fun _ _ _ _ h => h) (by kernel_rfl) (fun w => by kernel_rfl) m1 ?_
                        refine rgd_pureS 4 (some 43) rfl rfl (.agg #[.int .i64 x1, .int .i64 x2]) (by kernel_rfl) (by kernel_rfl) (by kernel_rfl) (fun _ _ _ _ h => h) (by kernel_rfl) (fun U hU => exec_gload 28 _ rfl G6 (0) (by kernel_rfl) _ hU.1 Tryd.underlying28 rfl (SZ x1 x2)) m1 ?_
                        refine rgd_pure 5 (some 44) rfl rfl (.pointer (some ⟨g1, 0, none⟩)) (by kernel_rfl) (by kernel_rfl) (by kernel_rfl) (fun _ _ _ _ h => h) (by kernel_rfl) (fun w => by kernel_rfl) m1 ?_
                        refine rgd_pureS 6 (some 45) rfl rfl (.agg #[.int .i64 r, .int .i64 n]) (by kernel_rfl) (by kernel_rfl) (by kernel_rfl) (fun _ _ _ _ h => h) (by kernel_rfl) (fun U hU => exec_gload 28 _ rfl g1 (0) (by kernel_rfl) _ (ev_dot (x := ⟨⟨r, n, t, kd, d, fl, tx, gn⟩, some ⟨b1, o1, none⟩, gc⟩) hU.2.1) Tryd.underlying28 rfl (SZ r n)) m1 ?_
                        refine rgd_pure 7 (some 46) rfl rfl (.bool false) (by kernel_rfl) (by kernel_rfl) (by kernel_rfl) (fun _ _ _ _ h => h) (by kernel_rfl) (exec_eqlE _ _ _ rfl (x1, x2) (r, n) false EQ.out (by kernel_rfl) (by kernel_rfl)) m1 ?_
                        refine rgd_pure 8 (some 47) rfl rfl (.bool false) (by kernel_rfl) (by kernel_rfl) (by kernel_rfl) (fun _ _ _ _ h => h) (by kernel_rfl) (fun w => by kernel_rfl) m1 ?_
                        refine rgd_pure 9 (some 48) rfl rfl (.bool false) (by kernel_rfl) (by kernel_rfl) (by kernel_rfl) (fun _ _ _ _ h => h) (by kernel_rfl) (fun w => by kernel_rfl) m1 ?_
                        refine rgd_pure 10 (some 49) rfl rfl (.int .i64 (k : Int)) (by kernel_rfl) (by kernel_rfl) (by kernel_rfl) (fun _ _ _ _ h => h) (by kernel_rfl) (fun w => by kernel_rfl) m1 ?_
                        refine rgd_pure 11 (some 50) rfl rfl (.bool true) (by kernel_rfl) (by kernel_rfl) (by kernel_rfl) (fun _ _ _ _ h => h) (by kernel_rfl) (exec_gtrB _ _ _ _ rfl (k : Int) 0 true GK.out (by kernel_rfl) (by kernel_rfl)) m1 ?_
                        refine rgd_pure 12 (some 51) rfl rfl (.bool true) (by kernel_rfl) (by kernel_rfl) (by kernel_rfl) (fun _ _ _ _ h => h) (by kernel_rfl) (fun w => by kernel_rfl) m1 ?_
                        refine rgd_pure 13 (some 52) rfl rfl (.pointer (some ⟨g1, 7, none⟩)) (by kernel_rfl) (by kernel_rfl) (by kernel_rfl) (fun _ _ _ _ h => h) (by kernel_rfl) (fun w => by kernel_rfl) m1 ?_
                        refine rgd_pureS 14 (some 53) rfl rfl (.slice (some ⟨b1, o1, none⟩) gn.length gc) (by kernel_rfl) (by kernel_rfl) (by kernel_rfl) (fun _ _ _ _ h => h) (by kernel_rfl) (fun U hU => exec_load1 _ _ rfl Tryd.underlying29 rfl ⟨g1, 7, none⟩ _ (by kernel_rfl) (ev_cells (x := ⟨⟨r, n, t, kd, d, fl, tx, gn⟩, some ⟨b1, o1, none⟩, gc⟩) hU.2.1).2.2.2.2.2.2.2) m1 ?_
                        refine rgd_pure 15 (some 54) rfl rfl (.int .i64 (k : Int)) (by kernel_rfl) (by kernel_rfl) (by kernel_rfl) (fun _ _ _ _ h => h) (by kernel_rfl) (fun w => by kernel_rfl) m1 ?_
                        refine rgd_pure 16 (some 55) rfl rfl (.int .i64 (j : Int)) (by kernel_rfl) (by kernel_rfl) (by kernel_rfl) (fun _ _ _ _ h => h) (by kernel_rfl) (exec_subI _ _ _ _ rfl (k : Int) 1 (j : Int) SB.out (by kernel_rfl) (by kernel_rfl)) m1 ?_
                        refine rgd_pure 17 (some 56) rfl rfl (.pointer (some ⟨b1, o1 + j * 2, none⟩)) (by kernel_rfl) (by kernel_rfl) (by kernel_rfl) (fun _ _ _ _ h => h) (by kernel_rfl) (exec_idxD _ _ rfl b1 o1 gn.length gc j (by kernel_rfl) (by kernel_rfl) hjl) m1 ?_
                        refine rgd_pureS 18 (some 57) rfl rfl (.agg #[.int .i64 z1, .int .i64 z2]) (by kernel_rfl) (by kernel_rfl) (by kernel_rfl) (fun _ _ _ _ h => h) (by kernel_rfl) (fun U hU => exec_gload 28 _ rfl b1 (o1 + j * 2) (by kernel_rfl) _ hU.2.2.1 Tryd.underlying28 rfl (SZ z1 z2)) m1 ?_
                        refine rgd_pureS 19 (some 58) rfl rfl (.agg #[.int .i64 x1, .int .i64 x2]) (by kernel_rfl) (by kernel_rfl) (by kernel_rfl) (fun _ _ _ _ h => h) (by kernel_rfl) (fun U hU => exec_gload 28 _ rfl G6 (0) (by kernel_rfl) _ hU.1 Tryd.underlying28 rfl (SZ x1 x2)) m1 ?_
                        refine rgd_call 20 (some 59) (by kernel_rfl) rfl rfl (by kernel_rfl) 50 (#[.agg #[.int .i64 z1, .int .i64 z2], .agg #[.int .i64 x1, .int .i64 x2]]) (by kernel_rfl) (LE.out _) ?_
                        rintro _ U2 ⟨rfl, bU2⟩
                        have m2 := keep _ _ bU2 m1
                        refine ⟨_, rfl, m2, ?_⟩
                        refine rgd_pure 21 (some 60) rfl rfl (.bool true) (by kernel_rfl) (by kernel_rfl) (by kernel_rfl) (fun _ _ _ _ h => h) (by kernel_rfl) (fun w => by kernel_rfl) m2 ?_
                        refine rgd_pure 22 (some 61) rfl rfl (.bool true) (by kernel_rfl) (by kernel_rfl) (by kernel_rfl) (fun _ _ _ _ h => h) (by kernel_rfl) (fun w => by kernel_rfl) m2 ?_
                        refine rgd_pure 23 (some 62) rfl rfl (.bool true) (by kernel_rfl) (by kernel_rfl) (by kernel_rfl) (fun _ _ _ _ h => h) (by kernel_rfl) (fun w => by kernel_rfl) m2 ?_
                        have BU := Lib.hid m2.2.2.2
                        have KE : K2 { tmps := #[.agg (EvP.cells ⟨⟨r, n, t, kd, d, fl, tx, gn⟩, some ⟨b1, o1, none⟩, gc⟩).toArray, .pointer (some ⟨g1, 0, none⟩), u2, .int .i64 (k : Int), .pointer (some ⟨G6, 0, none⟩), .pointer (some ⟨g1, 0, none⟩), .agg #[.int .i64 r, .int .i64 n], .bool true, .bool false, .bool false, .pointer (some ⟨g1, 2, none⟩), .int .i64 t, .bool (decide (t < 1)), .bool (decide (t < 1)), .bool (decide (t < 1)), .pointer (some ⟨g1, 2, none⟩), .int .i64 t, .bool (decide (1099511627776 < t)), .bool (decide (t < 1) || decide (1099511627776 < t)), .bool (decide (t < 1) || decide (1099511627776 < t)), .pointer (some ⟨g1, 4, none⟩), .string d, .bool true, .bool false, .bool (decide (t < 1) || decide (1099511627776 < t)), .bool (decide (t < 1) || decide (1099511627776 < t)), .pointer (some ⟨g1, 7, none⟩), .slice (some ⟨b1, o1, none⟩) m gc, .int .i64 (m : Int), .bool (decide (120 < (m : Int))), .bool (decide (t < 1) || decide (1099511627776 < t) || decide (120 < (m : Int))), .pointer (some ⟨g1, 7, none⟩), .slice (some ⟨b1, o1, none⟩) m gc, .int .i64 (m : Int), .int .i64 (k : Int), .bool true, .int .i64 (k : Int), .pointer (some ⟨b1, o1 + k * 2, none⟩), .agg #[.int .i64 x1, .int .i64 x2], .agg #[.int .i64 x1, .int .i64 x2], .bool true, .bool false, .bool false, .agg #[.int .i64 x1, .int .i64 x2], .pointer (some ⟨g1, 0, none⟩), .agg #[.int .i64 r, .int .i64 n], .bool false, .bool false, .bool false, .int .i64 (k : Int), .bool true, .bool true, .pointer (some ⟨g1, 7, none⟩), .slice (some ⟨b1, o1, none⟩) gn.length gc, .int .i64 (k : Int), .int .i64 (j : Int), .pointer (some ⟨b1, o1 + j * 2, none⟩), .agg #[.int .i64 z1, .int .i64 z2], .agg #[.int .i64 x1, .int .i64 x2], .bool false, .bool true, .bool true, .bool true, u63, undef, undef, undef, undef, undef, undef, undef, undef, undef, undef, undef, undef, undef, undef, undef, undef, undef, undef, undef, undef, undef], defers := [] } U2 := by
                          refine hK2 _ _ ?_
                          clear hK2 keep m0 m1 m2
                          go_wp2
                          go_ret
                          exact ⟨rfl, thenBelow B2.out BU.out⟩
                        exact wpAnyH_done (by kernel_rfl) (Eq.mp (by kernel_rfl) KE) _
                      | true =>
                        rw [hlt] at LE
                        have NO : Hid (∀ i (h : i + 1 < gn.length), i + 1 < k + 1 → ltD gn[i] gn[i + 1] = true) := Lib.hid fun i h hi => by
                          rcases Nat.lt_or_ge (i + 1) k with h3 | h3
                          · exact HO.out i h h3
                          · obtain rfl : i = j := by omega
                            have h1 := HLT.out
                            rw [hlt] at h1
                            simpa only [hj] using h1
                        clear hlt hj HLT
                        refine rg_calm (by kernel_rfl) rfl (S := fun U => U.rangeAt G6 0 [.int .i64 x1, .int .i64 x2] ∧ U.rangeAt g1 0 (EvP.cells ⟨⟨r, n, t, kd, d, fl, tx, gn⟩, some ⟨b1, o1, none⟩, gc⟩) ∧ U.rangeAt b1 (o1 + j * 2) [.int .i64 z1, .int .i64 z2] ∧ Below w2.heap.size w2 U) ?_
                        have m0 := And.intro N6.out (And.intro Y6.out (And.intro Q3.out B6.out))
                        have keep : ∀ U U' : World, Below U.heap.size U U' → U.rangeAt G6 0 [.int .i64 x1, .int .i64 x2] ∧ U.rangeAt g1 0 (EvP.cells ⟨⟨r, n, t, kd, d, fl, tx, gn⟩, some ⟨b1, o1, none⟩, gc⟩) ∧ U.rangeAt b1 (o1 + j * 2) [.int .i64 z1, .int .i64 z2] ∧ Below w2.heap.size w2 U → U'.rangeAt G6 0 [.int .i64 x1, .int .i64 x2] ∧ U'.rangeAt g1 0 (EvP.cells ⟨⟨r, n, t, kd, d, fl, tx, gn⟩, some ⟨b1, o1, none⟩, gc⟩) ∧ U'.rangeAt b1 (o1 + j * 2) [.int .i64 z1, .int .i64 z2] ∧ Below w2.heap.size w2 U' := fun U U' hb h => ⟨range_below h.1 hb, range_below h.2.1 hb, range_below h.2.2.1 hb, thenBelow h.2.2.2 hb⟩
                        refine rgd_pureS 0 (some 39) rfl rfl (.agg #[.int .i64 x1, .int .i64 x2]) (by kernel_rfl) (by kernel_rfl) (by kernel_rfl) (fun _ _ _ _ h => h) (by kernel_rfl) (fun U hU => exec_gload 28 _ rfl G6 (0) (by kernel_rfl) _ hU.1 Tryd.underlying28 rfl (SZ x1 x2)) m0 ?_
                        refine rgd_call 1 (some 40) (by kernel_rfl) rfl rfl (by kernel_rfl) 48 (#[.agg (dcs x1 x2)]) (by kernel_rfl) (VA.out _) ?_
                        rintro _ U1 ⟨rfl, bU1⟩
                        have m1 := keep _ _ bU1 m0
                        refine ⟨_, rfl, m1, ?_⟩
                        refine rgd_pure 2 (some 41) rfl rfl (.bool false) (by kernel_rfl) (by kernel_rfl) (by kernel_rfl) (fun _ _ _ _ h => h) (by kernel_rfl) (fun w => by kernel_rfl) m1 ?_
                        refine rgd_pure 3 (some 42) rfl rfl (.bool false) (by kernel_rfl) (by kernel_rfl) (by kernel_rfl) (fun _ _ _ _ h => h) (by kernel_rfl) (fun w => by kernel_rfl) m1 ?_
                        refine rgd_pureS 4 (some 43) rfl rfl (.agg #[.int .i64 x1, .int .i64 x2]) (by kernel_rfl) (by kernel_rfl) (by kernel_rfl) (fun _ _ _ _ h => h) (by kernel_rfl) (fun U hU => exec_gload 28 _ rfl G6 (0) (by kernel_rfl) _ hU.1 Tryd.underlying28 rfl (SZ x1 x2)) m1 ?_
                        refine rgd_pure 5 (some 44) rfl rfl (.pointer (some ⟨g1, 0, none⟩)) (by kernel_rfl) (by kernel_rfl) (by kernel_rfl) (fun _ _ _ _ h => h) (by kernel_rfl) (fun w => by kernel_rfl) m1 ?_
                        refine rgd_pureS 6 (some 45) rfl rfl (.agg #[.int .i64 r, .int .i64 n]) (by kernel_rfl) (by kernel_rfl) (by kernel_rfl) (fun _ _ _ _ h => h) (by kernel_rfl) (fun U hU => exec_gload 28 _ rfl g1 (0) (by kernel_rfl) _ (ev_dot (x := ⟨⟨r, n, t, kd, d, fl, tx, gn⟩, some ⟨b1, o1, none⟩, gc⟩) hU.2.1) Tryd.underlying28 rfl (SZ r n)) m1 ?_
                        refine rgd_pure 7 (some 46) rfl rfl (.bool false) (by kernel_rfl) (by kernel_rfl) (by kernel_rfl) (fun _ _ _ _ h => h) (by kernel_rfl) (exec_eqlE _ _ _ rfl (x1, x2) (r, n) false EQ.out (by kernel_rfl) (by kernel_rfl)) m1 ?_
                        refine rgd_pure 8 (some 47) rfl rfl (.bool false) (by kernel_rfl) (by kernel_rfl) (by kernel_rfl) (fun _ _ _ _ h => h) (by kernel_rfl) (fun w => by kernel_rfl) m1 ?_
                        refine rgd_pure 9 (some 48) rfl rfl (.bool false) (by kernel_rfl) (by kernel_rfl) (by kernel_rfl) (fun _ _ _ _ h => h) (by kernel_rfl) (fun w => by kernel_rfl) m1 ?_
                        refine rgd_pure 10 (some 49) rfl rfl (.int .i64 (k : Int)) (by kernel_rfl) (by kernel_rfl) (by kernel_rfl) (fun _ _ _ _ h => h) (by kernel_rfl) (fun w => by kernel_rfl) m1 ?_
                        refine rgd_pure 11 (some 50) rfl rfl (.bool true) (by kernel_rfl) (by kernel_rfl) (by kernel_rfl) (fun _ _ _ _ h => h) (by kernel_rfl) (exec_gtrB _ _ _ _ rfl (k : Int) 0 true GK.out (by kernel_rfl) (by kernel_rfl)) m1 ?_
                        refine rgd_pure 12 (some 51) rfl rfl (.bool true) (by kernel_rfl) (by kernel_rfl) (by kernel_rfl) (fun _ _ _ _ h => h) (by kernel_rfl) (fun w => by kernel_rfl) m1 ?_
                        refine rgd_pure 13 (some 52) rfl rfl (.pointer (some ⟨g1, 7, none⟩)) (by kernel_rfl) (by kernel_rfl) (by kernel_rfl) (fun _ _ _ _ h => h) (by kernel_rfl) (fun w => by kernel_rfl) m1 ?_
                        refine rgd_pureS 14 (some 53) rfl rfl (.slice (some ⟨b1, o1, none⟩) gn.length gc) (by kernel_rfl) (by kernel_rfl) (by kernel_rfl) (fun _ _ _ _ h => h) (by kernel_rfl) (fun U hU => exec_load1 _ _ rfl Tryd.underlying29 rfl ⟨g1, 7, none⟩ _ (by kernel_rfl) (ev_cells (x := ⟨⟨r, n, t, kd, d, fl, tx, gn⟩, some ⟨b1, o1, none⟩, gc⟩) hU.2.1).2.2.2.2.2.2.2) m1 ?_
                        refine rgd_pure 15 (some 54) rfl rfl (.int .i64 (k : Int)) (by kernel_rfl) (by kernel_rfl) (by kernel_rfl) (fun _ _ _ _ h => h) (by kernel_rfl) (fun w => by kernel_rfl) m1 ?_
                        refine rgd_pure 16 (some 55) rfl rfl (.int .i64 (j : Int)) (by kernel_rfl) (by kernel_rfl) (by kernel_rfl) (fun _ _ _ _ h => h) (by kernel_rfl) (exec_subI _ _ _ _ rfl (k : Int) 1 (j : Int) SB.out (by kernel_rfl) (by kernel_rfl)) m1 ?_
                        refine rgd_pure 17 (some 56) rfl rfl (.pointer (some ⟨b1, o1 + j * 2, none⟩)) (by kernel_rfl) (by kernel_rfl) (by kernel_rfl) (fun _ _ _ _ h => h) (by kernel_rfl) (exec_idxD _ _ rfl b1 o1 gn.length gc j (by kernel_rfl) (by kernel_rfl) hjl) m1 ?_
                        refine rgd_pureS 18 (some 57) rfl rfl (.agg #[.int .i64 z1, .int .i64 z2]) (by kernel_rfl) (by kernel_rfl) (by kernel_rfl) (fun _ _ _ _ h => h) (by kernel_rfl) (fun U hU => exec_gload 28 _ rfl b1 (o1 + j * 2) (by kernel_rfl) _ hU.2.2.1 Tryd.underlying28 rfl (SZ z1 z2)) m1 ?_
                        refine rgd_pureS 19 (some 58) rfl rfl (.agg #[.int .i64 x1, .int .i64 x2]) (by kernel_rfl) (by kernel_rfl) (by kernel_rfl) (fun _ _ _ _ h => h) (by kernel_rfl) (fun U hU => exec_gload 28 _ rfl G6 (0) (by kernel_rfl) _ hU.1 Tryd.underlying28 rfl (SZ x1 x2)) m1 ?_
                        refine rgd_call 20 (some 59) (by kernel_rfl) rfl rfl (by kernel_rfl) 50 (#[.agg #[.int .i64 z1, .int .i64 z2], .agg #[.int .i64 x1, .int .i64 x2]]) (by kernel_rfl) (LE.out _) ?_
                        rintro _ U2 ⟨rfl, bU2⟩
                        have m2 := keep _ _ bU2 m1
                        refine ⟨_, rfl, m2, ?_⟩
                        refine rgd_pure 21 (some 60) rfl rfl (.bool false) (by kernel_rfl) (by kernel_rfl) (by kernel_rfl) (fun _ _ _ _ h => h) (by kernel_rfl) (fun w => by kernel_rfl) m2 ?_
                        refine rgd_pure 22 (some 61) rfl rfl (.bool false) (by kernel_rfl) (by kernel_rfl) (by kernel_rfl) (fun _ _ _ _ h => h) (by kernel_rfl) (fun w => by kernel_rfl) m2 ?_
                        refine rgd_pure 23 (some 62) rfl rfl (.bool false) (by kernel_rfl) (by kernel_rfl) (by kernel_rfl) (fun _ _ _ _ h => h) (by kernel_rfl) (fun w => by kernel_rfl) m2 ?_
                        have BU := Lib.hid m2.2.2.2
                        have KE : K2 { tmps := #[.agg (EvP.cells ⟨⟨r, n, t, kd, d, fl, tx, gn⟩, some ⟨b1, o1, none⟩, gc⟩).toArray, .pointer (some ⟨g1, 0, none⟩), u2, .int .i64 (k : Int), .pointer (some ⟨G6, 0, none⟩), .pointer (some ⟨g1, 0, none⟩), .agg #[.int .i64 r, .int .i64 n], .bool true, .bool false, .bool false, .pointer (some ⟨g1, 2, none⟩), .int .i64 t, .bool (decide (t < 1)), .bool (decide (t < 1)), .bool (decide (t < 1)), .pointer (some ⟨g1, 2, none⟩), .int .i64 t, .bool (decide (1099511627776 < t)), .bool (decide (t < 1) || decide (1099511627776 < t)), .bool (decide (t < 1) || decide (1099511627776 < t)), .pointer (some ⟨g1, 4, none⟩), .string d, .bool true, .bool false, .bool (decide (t < 1) || decide (1099511627776 < t)), .bool (decide (t < 1) || decide (1099511627776 < t)), .pointer (some ⟨g1, 7, none⟩), .slice (some ⟨b1, o1, none⟩) m gc, .int .i64 (m : Int), .bool (decide (120 < (m : Int))), .bool (decide (t < 1) || decide (1099511627776 < t) || decide (120 < (m : Int))), .pointer (some ⟨g1, 7, none⟩), .slice (some ⟨b1, o1, none⟩) m gc, .int .i64 (m : Int), .int .i64 (k : Int), .bool true, .int .i64 (k : Int), .pointer (some ⟨b1, o1 + k * 2, none⟩), .agg #[.int .i64 x1, .int .i64 x2], .agg #[.int .i64 x1, .int .i64 x2], .bool true, .bool false, .bool false, .agg #[.int .i64 x1, .int .i64 x2], .pointer (some ⟨g1, 0, none⟩), .agg #[.int .i64 r, .int .i64 n], .bool false, .bool false, .bool false, .int .i64 (k : Int), .bool true, .bool true, .pointer (some ⟨g1, 7, none⟩), .slice (some ⟨b1, o1, none⟩) gn.length gc, .int .i64 (k : Int), .int .i64 (j : Int), .pointer (some ⟨b1, o1 + j * 2, none⟩), .agg #[.int .i64 z1, .int .i64 z2], .agg #[.int .i64 x1, .int .i64 x2], .bool true, .bool false, .bool false, .bool false, u63, undef, undef, undef, undef, undef, undef, undef, undef, undef, undef, undef, undef, undef, undef, undef, undef, undef, undef, undef, undef, undef], defers := [] } U2 := by
                          refine hK2 _ _ ?_
                          clear hK2 keep m0 m1 m2
                          go_wp2
                          go_roundw
                          case rel => exact ⟨k + 1, by omega, by go_num, NA.out, NO.out, BU.out⟩
                          case measure => simp [intOf]; omega
                        exact wpAnyH_done (by kernel_rfl) (Eq.mp (by kernel_rfl) KE) _
              · obtain rfl : k = m := by omega
                have hkl' : ¬ ((k : Nat) : Int) < k := by omega
                have hgo : goB gn (r, n) = true := goB_iff.2 ⟨by rw [HN.out]; omega, fun i h => HA.out i h (by rw [← HN.out]; exact h), fun i h => HO.out i h (by rw [← HN.out]; exact h)⟩
                have hH : headB ⟨r, n, t, kd, d, fl, tx, gn⟩ = true := (head_iff _).2 ⟨HV.out, by constructor <;> simp only <;> omega, HD.out, hgo⟩
                have HH := Lib.hid hH
                have B4 := Lib.hid (thenBelow B2.out BB.out)
                have R4 := Lib.hid (range_below R2.out BB.out)
                clear hH hgo HA HO GB
                obtain ⟨c0, c1, c2, c3, c4, c5, c6, c7⟩ := ev_cells R4.out
                simp only [Nat.zero_add] at c0 c1 c2 c3 c4 c5 c6 c7
                clear c0 c1 c2 c4 c7
                by_cases hk1 : kd = 1
                · subst hk1
                  have hX : X = txtE fl tx := HC.out.symm.trans (chk_put HH.out rfl)
                  have DT := Lib.hid (refDocText_is fl tx wr)
                  rw [← hX] at DT
                  clear hX EL HC
                  go_wp2_with fail
                  refine DT.out.mono ?_
                  rintro e w5 ⟨rfl, hb5⟩
                  have B5 := Lib.hid (thenBelow B4.out hb5)
                  clear hb5
                  go_wp2
                  go_ret
                  exact ⟨rfl, B5.out⟩
                · have hk1' : (kd == 1) = false := by simp [hk1]
                  have hk1n : (kd != 1) = true := by simp [hk1]
                  by_cases hk2 : kd = 2
                  · subst hk2
                    by_cases hf0 : fl = 0
                    · subst hf0
                      by_cases ht0 : tx.size = 0
                      · have hX : X = 0 := HC.out.symm.trans (chk_drop HH.out rfl rfl ht0)
                        subst hX
                        have he : tx = ByteArray.empty := by
                          apply ByteArray.ext
                          exact Array.eq_empty_of_size_eq_zero ht0
                        subst he
                        clear HC EL
                        go_wp2
                        go_ret
                        exact ⟨rfl, B4.out⟩
                      · have hX := EL.out hk1 (by omega)
                        subst hX
                        have TS := toList_size tx
                        have f1 : tx.toList ≠ [] := fun h => by rw [h] at TS; exact ht0 TS.symm
                        have f2 : tx.toList.isEmpty = false := by simpa using f1
                        clear TS HC EL
                        go_wp2
                        go_ret
                        exact ⟨rfl, B4.out⟩
                    · have hX := EL.out hk1 (by omega)
                      subst hX
                      have hf0' : (fl == 0) = false := by simp [hf0]
                      clear HC EL
                      go_wp2
                      go_ret
                      exact ⟨rfl, B4.out⟩
                  · have hX := EL.out hk1 (by omega)
                    subst hX
                    have hk2' : (kd == 2) = false := by simp [hk2]
                    clear HC EL
                    go_wp2
                    go_ret
                    exact ⟨rfl, B4.out⟩
end Go.Proofs.YtjmglgcifekhgaaDoor
/- docs: without; which dots an event takes away. -/
namespace Go.Proofs.YtjmglgcifekhgaaDoor
open Go Go.RowKit
set_option linter.unusedVariables false
set_option maxRecDepth 1000000

/-- what is left, in new memory -/
def LeftW (w : World) (K' : List Wr) (e : Ending) (w' : World) : Prop := ∃ v, e = .returned v ∧ w'.ownsRow w.heap.size 50 6 v K'.length (wcl K') ∧ Below w.heap.size w w'
set_option maxHeartbeats 4000000 in
theorem withoutW_is (F : FuncId) (caps : Array Value) (goes : Wr → Bool) (S : World → Prop) (p : Option Addr) (c : Nat) (L : List Wr) (w : World) (TW : TellW F caps goes w.heap.size S) (hS : S w) (h : WrsAt w p L) (ho : ∀ a, p = some a → ∃ b o, a = ⟨b, o, none⟩) (hn : L.length ≤ 10000) :
    Calls Tryd.prog 27 #[.slice p L.length c, .func (.func F) #[] caps] w (LeftW w (L.filter (fun x => !goes x))) := by
  have CL := Lib.hid (cloneW_is p c L w h ho hn)
  have HT := Lib.hid TW; have HS := Lib.hid hS
  clear TW hS h ho
  go_enter Tryd.func27, Tryd.ntmps27
  go_wp2_with fail
  refine CL.out.mono ?_
  rintro e w1 ⟨v, rfl, ho, hb⟩
  obtain ⟨p1, c1, rfl, _, _, _⟩ := own_wat ho
  have DL := Lib.hid (delW_is F caps goes w.heap.size S HT.out p1 c1 L w1 (HT.out.keep _ _ HS.out hb) ho hn hb.size)
  have B1 := Lib.hid hb
  clear ho hb CL
  go_wp2_with fail
  refine DL.out.mono ?_
  rintro e w2 ⟨v2, K', rfl, ho2, hK, hb2⟩
  subst hK
  have O2 := Lib.hid ho2; have B2 := Lib.hid (B1.out.trans hb2)
  clear ho2 hb2 DL
  go_wp2
  go_ret
  exact ⟨_, rfl, O2.out, B2.out⟩
set_option maxHeartbeats 4000000 in
theorem indexD_is (p : Option Addr) (c : Nat) (l : List Dt) (y1 y2 : Int) (w : World) (h : DRow w p l) (hn : l.length ≤ 1000000) :
    Calls Tryd.prog 59 #[.slice p l.length c, .agg (dcs y1 y2)] w fun e w' => ∃ i : Int, e = .returned (.int .i64 i) ∧ ((y1, y2) ∈ l ↔ 0 ≤ i) ∧ Below w.heap.size w w' := by
  have H := Lib.hid h; clear h
  go_enter Tryd.func59, Tryd.ntmps59
  go_wp2_with (refine wpList_gbox rfl _ rfl (dcs y1 y2) rfl ?_)
  intro g3 w1 l3 h3 hb1
  have B1 := Lib.hid hb1
  have Y1 := Lib.hid (range_of_block h3)
  clear hb1 h3
  go_wp2
  go_loopw [8] (fun i wr => ∃ k : Nat, k ≤ l.length ∧ i = .int .i64 k ∧ (∀ i (h : i < l.length), i < k → l[i] ≠ (y1, y2)) ∧ Below w1.heap.size w1 wr) (fun i _ => l.length - (intOf i).toNat)
  case atStart => exact ⟨0, Nat.zero_le _, rfl, fun i _ h => by omega, Below.refl _ _⟩
  case round =>
    obtain ⟨k, hk, rfl, hall, hb⟩ := hrel
    have BB := Lib.hid hb; have HA := Lib.hid hall
    clear hall hb
    by_cases hkl : k < l.length
    · have hkl' : (k : Int) < l.length := by omega
      have hr := thenBelow B1.out BB.out
      obtain ⟨b1, o1, rfl, q1⟩ := drow_at (H.out.below (to_drew hr)) hkl
      have y1' := range_below Y1.out (to_drew BB.out)
      have m0 := And.intro q1 y1'
      have HR := Lib.hid (to_drew hr)
      have BD := Lib.hid (to_drew BB.out)
      clear hr q1 y1'
      obtain ⟨⟨x1, x2⟩, hx⟩ : ∃ x, l[k] = x := ⟨_, rfl⟩
      have HX := Lib.hid hx
      rw [hx] at m0
      have M0 := Lib.hid m0
      clear hx m0
      obtain ⟨q, hq⟩ : ∃ q, eqDt (y1, y2) (x1, x2) = q := ⟨_, rfl⟩
      have EQ := Lib.hid hq
      clear hq
      have SZ : ∀ z1 z2 : Int, (Tryd.prog.info? 28).map (·.size) = some [Value.int .i64 z1, .int .i64 z2].length := fun z1 z2 => by kernel_rfl
      go_wp2_with fail
      rename_i K2 hK2
      have KE : K2 { tmps := #[.slice (some ⟨b1, o1, none⟩) l.length c, .agg (dcs y1 y2), undef, .pointer (some ⟨g3, 0, none⟩), u4, .int .i64 (k : Int), .slice (some ⟨b1, o1, none⟩) l.length c, .int .i64 (l.length : Int), .int .i64 (k : Int), .bool true, .int .i64 (k : Int), .agg #[.int .i64 y1, .int .i64 y2], .slice (some ⟨b1, o1, none⟩) l.length c, .int .i64 (k : Int), .pointer (some ⟨b1, o1 + k * 2, none⟩), .agg #[.int .i64 x1, .int .i64 x2], .bool q, u17, u18], defers := [] } wr.drew := by
        refine hK2 _ _ ?_
        clear hK2 M0
        cases q with
        | true =>
          have YES : Hid ((y1, y2) ∈ l ↔ (0 : Int) ≤ k) := Lib.hid ⟨fun _ => by omega, fun _ => by
            rw [(eqDt_iff _ _).1 EQ.out, ← HX.out]; exact List.getElem_mem hkl⟩
          go_wp2
          go_ret
          exact ⟨(k : Int), rfl, YES.out, HR.out⟩
        | false =>
          have NA : Hid (∀ i (h : i < l.length), i < k + 1 → l[i] ≠ (y1, y2)) := Lib.hid fun i h hi => by
            rcases Nat.lt_or_ge i k with h3 | h3
            · exact HA.out i h h3
            · obtain rfl : i = k := by omega
              intro e
              rw [HX.out] at e
              have h4 := EQ.out
              rw [(eqDt_iff _ _).2 e.symm] at h4
              cases h4
          go_wp2
          go_roundw
          case rel => exact ⟨k + 1, by omega, by go_num, NA.out, BD.out⟩
          case measure => simp [intOf]; omega
      refine rg_calm (by kernel_rfl) rfl (S := fun U => U.rangeAt b1 (o1 + k * 2) [.int .i64 x1, .int .i64 x2] ∧ U.rangeAt g3 0 [.int .i64 y1, .int .i64 y2]) ?_
      refine rgd_pureS 0 (some 11) rfl rfl (.agg #[.int .i64 y1, .int .i64 y2]) (by kernel_rfl) (by kernel_rfl) (by kernel_rfl) (fun _ _ _ _ h => h) (by kernel_rfl) (fun U hU => exec_gload 28 _ rfl g3 (0) (by kernel_rfl) _ hU.2 Tryd.underlying28 rfl (SZ y1 y2)) M0.out ?_
      refine rgd_pure 1 (some 12) rfl rfl (.slice (some ⟨b1, o1, none⟩) l.length c) (by kernel_rfl) (by kernel_rfl) (by kernel_rfl) (fun _ _ _ _ h => h) (by kernel_rfl) (fun w => by kernel_rfl) M0.out ?_
      refine rgd_pure 2 (some 13) rfl rfl (.int .i64 (k : Int)) (by kernel_rfl) (by kernel_rfl) (by kernel_rfl) (fun _ _ _ _ h => h) (by kernel_rfl) (fun w => by kernel_rfl) M0.out ?_
      refine rgd_pure 3 (some 14) rfl rfl (.pointer (some ⟨b1, o1 + k * 2, none⟩)) (by kernel_rfl) (by kernel_rfl) (by kernel_rfl) (fun _ _ _ _ h => h) (by kernel_rfl) (exec_idxD _ _ rfl b1 o1 l.length c k (by kernel_rfl) (by kernel_rfl) hkl) M0.out ?_
      refine rgd_pureS 4 (some 15) rfl rfl (.agg #[.int .i64 x1, .int .i64 x2]) (by kernel_rfl) (by kernel_rfl) (by kernel_rfl) (fun _ _ _ _ h => h) (by kernel_rfl) (fun U hU => exec_gload 28 _ rfl b1 (o1 + k * 2) (by kernel_rfl) _ hU.1 Tryd.underlying28 rfl (SZ x1 x2)) M0.out ?_
      refine rgd_pure 5 (some 16) rfl rfl (.bool q) (by kernel_rfl) (by kernel_rfl) (by kernel_rfl) (fun _ _ _ _ h => h) (by kernel_rfl) (exec_eqlE _ _ _ rfl (y1, y2) (x1, x2) q EQ.out (by kernel_rfl) (by kernel_rfl)) M0.out ?_
      exact wpAnyH_done (by kernel_rfl) (Eq.mp (by kernel_rfl) KE) _
    · obtain rfl : k = l.length := by omega
      have hkl' : ¬ ((l.length : Nat) : Int) < l.length := by omega
      have NO : Hid ((y1, y2) ∈ l ↔ (0 : Int) ≤ -1) := Lib.hid ⟨fun h => by
        obtain ⟨i, hi, e⟩ := List.getElem_of_mem h
        exact absurd e (HA.out i hi hi), fun h => by omega⟩
      go_wp2
      go_ret
      exact ⟨-1, rfl, NO.out, thenBelow B1.out BB.out⟩
theorem contains_is (p : Option Addr) (c : Nat) (l : List Dt) (y1 y2 : Int) (w : World) (h : DRow w p l) (hn : l.length ≤ 1000000) :
    Calls Tryd.prog 29 #[.slice p l.length c, .agg #[.int .i64 y1, .int .i64 y2]] w (RetBool w (decide ((y1, y2) ∈ l))) := by
  have H := Lib.hid h; clear h
  obtain ⟨b, hb⟩ : ∃ b, decide ((y1, y2) ∈ l) = b := ⟨_, rfl⟩
  rw [hb]
  have HB := Lib.hid hb
  clear hb
  go_enter Tryd.func29, Tryd.ntmps29
  have b1 := below_alloc w (.cells #[.int .i64 y1, .int .i64 y2] 28)
  have IX := Lib.hid (indexD_is p c l y1 y2 _ (H.out.below b1) hn)
  have B1 := Lib.hid b1
  clear b1
  go_wp2_with fail
  refine IX.out.mono ?_
  rintro e w2 ⟨i, rfl, hi, hb2⟩
  have B2 := Lib.hid (thenBelow B1.out hb2)
  clear hb2 IX
  by_cases h0 : 0 ≤ i
  · have ht : b = true := by rw [← HB.out]; exact decide_eq_true (hi.2 h0)
    subst ht
    clear hi
    go_wp2
    go_ret
    exact ⟨rfl, B2.out⟩
  · have hf : b = false := by rw [← HB.out]; exact decide_eq_false (fun h => h0 (hi.1 h))
    subst hf
    clear hi
    go_wp2
    go_ret
    exact ⟨ret_bool (decide_eq_false (by omega)), B2.out⟩
/-- an event in a variable of its own, its dots there, below B -/
def EvIn (G : Nat) (x : EvP) (w : World) : Prop := w.rangeAt G 0 x.cells ∧ x.Ok w
def goneW (x : EvP) (y : Wr) : Bool := decide (y.dot ∈ x.e.gone)
set_option maxHeartbeats 4000000 in
theorem apply_tell (G : Nat) (x : EvP) (y : Wr) (w : World) (h : EvIn G x w) (hn : x.e.gone.length ≤ 1000) : Calls Tryd.prog 28 #[.agg y.cells.toArray, .pointer (some ⟨G, 0, none⟩)] w (RetBool w (goneW x y)) := by
  obtain ⟨r, n, t, d, fl, tx⟩ := y
  show Calls Tryd.prog 28 #[.agg #[.int .i64 r, .int .i64 n, .int .i64 t, .string d, .int .i64 fl, .string tx], .pointer (some ⟨G, 0, none⟩)] w _
  have hb : Below w.heap.size w (w.alloc (.cells #[.int .i64 r, .int .i64 n, .int .i64 t, .string d, .int .i64 fl, .string tx] 50)) := below_alloc _ _
  have c7 := (ev_cells (range_below h.1 hb)).2.2.2.2.2.2.2
  have HB := Lib.hid hb
  have CT := Lib.hid (contains_is x.p x.c x.e.gone r n _ (h.2.1.below hb) (by omega))
  obtain ⟨b, hbb⟩ : ∃ b, goneW x ⟨r, n, t, d, fl, tx⟩ = b := ⟨_, rfl⟩
  have hbb' : decide ((r, n) ∈ x.e.gone) = b := hbb
  rw [hbb]
  rw [hbb'] at CT
  simp only [Nat.zero_add] at c7
  clear hb h hbb hbb'
  obtain ⟨⟨r0, n0, t0, k0, d0, f0, x0, gn⟩, gp, gc⟩ := x
  simp only at c7 CT
  go_enter Tryd.func28, Tryd.ntmps28
  go_wp2_with fail
  refine CT.out.mono ?_
  rintro e w2 ⟨rfl, hb2⟩
  have B2 := Lib.hid (thenBelow HB.out hb2)
  clear hb2
  go_wp2
  go_ret
  exact ⟨rfl, B2.out⟩
theorem apply_enter (args : Array Value) (w : World) : (callFunc 28 args).run Tryd.prog w = .ok (.enter 28 args) w := by kernel_rfl
/-- what of Apply's closure is known, in worlds that are as w0 below B -/
theorem apply_tells (G : Nat) (x : EvP) (B : Nat) (w0 : World) (hn : x.e.gone.length ≤ 1000) (h : EvIn G x w0) (hB : B = w0.heap.size) : TellW 28 #[.pointer (some ⟨G, 0, none⟩)] (goneW x) B (fun w => Below B w0 w) where
  enter := apply_enter
  tell := fun y w hw => apply_tell G x y w (by subst hB; exact ⟨range_below h.1 hw, ⟨h.2.1.below hw, h.2.2⟩⟩) hn
  keep := fun w w' h1 h2 => h1.trans h2
end Go.Proofs.YtjmglgcifekhgaaDoor
/- States by value: a vector, and writes. -/
namespace Go.Proofs.YtjmglgcifekhgaaDoor
open Go Go.RowKit
set_option linter.unusedVariables false
set_option maxRecDepth 1000000

/-- a state's cells -/
def scs (f : Nat → Int) (v : Value) : Array Value := ((vf f).toList ++ [v]).toArray
theorem scs_size (f : Nat → Int) (v : Value) : (scs f v).size = 65 := by simp [scs, vf_size]
theorem scs_slot (f : Nat → Int) (v : Value) : (scs f v)[64]? = some v := by
  simp only [scs, List.getElem?_toArray]
  rw [List.getElem?_append_right (by rw [Array.length_toList, vf_size]; omega), Array.length_toList, vf_size]; rfl
theorem scs_vec (f : Nat → Int) (v : Value) (i : Nat) (h : i < 64) : (scs f v)[i]? = (vf f)[i]? := by
  simp only [scs, List.getElem?_toArray]
  rw [List.getElem?_append_left (by rw [Array.length_toList, vf_size]; exact h), Array.getElem?_toList]
theorem scs_congr (v : Value) {f g : Nat → Int} (h : ∀ i, i < 64 → f i = g i) : scs f v = scs g v := by rw [scs, vf_congr h, scs]
theorem scs_one (f : Nat → Int) {v : Value} (h : v.oneCell' = true) : ∀ u ∈ (scs f v).toList, u.oneCell' = true := by
  intro u hu
  simp only [scs, List.toList_toArray, List.mem_append, List.mem_singleton] at hu
  rcases hu with hu | rfl
  · have hp := pcs_oneV f (v := .slice none 0 0) ⟨none, 0, 0, rfl⟩ u
    exact hp (by simp [pcs, hu])
  · exact h
theorem sizeSt (f : Nat → Int) (v : Value) : (Tryd.prog.info? 26).map (·.size) = some (scs f v).size := by rw [scs_size]; kernel_rfl
theorem sizeStl (f : Nat → Int) (v : Value) : (Tryd.prog.info? 26).map (·.size) = some (scs f v).toList.length := by rw [Array.length_toList, scs_size]; kernel_rfl
theorem zeroSt (w : World) : (zeroValue 26).run Tryd.prog w = .ok (.agg (scs (fun _ => 0) (.slice none 0 0))) w := by kernel_rfl
theorem builtSt (f : Nat → Int) (p : Option Addr) (n c : Nat) (w : World) : (Instr.build 26 #[(0, .agg (vf f)), (1, .slice p n c)]).run Tryd.prog w = .ok (.agg (scs f (.slice p n c))) w := run_build w _ _ _ (by kernel_rfl)
theorem builtSt0 (w : World) : (Instr.build 26 #[]).run Tryd.prog w = .ok (.agg (scs (fun _ => 0) (.slice none 0 0))) w := run_build w _ _ _ (by kernel_rfl)
/-- a state in a variable of its own -/
def Sx (w : World) (g : Nat) (f : Nat → Int) (v : Value) : Prop := w.heap[g]? = some (.cells (scs f v) 26 (0, 0))
theorem Sx.lt {w : World} {g : Nat} {f : Nat → Int} {v : Value} (h : Sx w g f v) : g < w.heap.size := (Array.getElem?_eq_some_iff.1 h).1
theorem Sx.later {w w' : World} {g : Nat} {f : Nat → Int} {v : Value} (h : Sx w g f v) (hb : Below w.heap.size w w') : Sx w' g f v := (hb.block g h.lt).trans h
theorem Sx.kept {w w' : World} {g : Nat} {f : Nat → Int} {v : Value} (h : Sx w g f v) {row : Option Nat} (hg : w.grownBy w' row) (hne : some g ≠ row) : Sx w' g f v := (hg.block g h.lt hne).trans h
theorem Sx.slot {w : World} {g : Nat} {f : Nat → Int} {v : Value} (h : Sx w g f v) : w.cell? ⟨g, 64, none⟩ = some v := (cell_of_row w g 64 _ _ _ h).trans (scs_slot f v)
theorem Sx.vec {w : World} {g : Nat} {f : Nat → Int} {v : Value} (h : Sx w g f v) : w.rangeAt g 0 (vf f).toList := fun j u hu => by
  have hj : j < 64 := by have := (List.getElem?_eq_some_iff.1 hu).1; rwa [Array.length_toList, vf_size] at this
  rw [Nat.zero_add, cell_of_row w g j _ _ _ h, scs_vec f v j hj, ← Array.getElem?_toList]; exact hu
theorem Sx.whole {w : World} {g : Nat} {f : Nat → Int} {v : Value} (h : Sx w g f v) : w.rangeAt g 0 (scs f v).toList := range_of_block h
/-- a whole variable written anew -/
theorem set_whole {w : World} {g : Nat} {old cs : Array Value} {ty : TypeId} {m : Nat × Nat} (h : w.heap[g]? = some (.cells old ty m)) (hs : old.size = cs.size) : (w.setCells g 0 cs.toList).heap[g]? = some (.cells cs ty m) := by
  rw [heap_setCells _ _ _ _ h]
  have e : setL old 0 cs.toList = cs := by
    apply Array.ext_getElem?
    intro i
    rw [setL_get _ _ _ (by rw [Array.length_toList]; omega)]
    split
    · simp
    · rename_i h1
      rw [Array.length_toList] at h1
      rw [Array.getElem?_eq_none (by omega), Array.getElem?_eq_none (by omega)]
  rw [e]
theorem exec_wstore {P : Program} {o : Oper} {a : Act} {w : World} (t : TypeId) (x y : Operand) (ho : o.op = .store t x y) (g : Nat) (hx : a.eval x = .pointer (some ⟨g, 0, none⟩)) (cs : Array Value) (hy : a.eval y = .agg cs) (hi : (P.info? t).map (·.size) = some cs.size) (h1 : ∀ v ∈ cs.toList, v.oneCell' = true)
    {old : Array Value} {ty : TypeId} (h : w.heap[g]? = some (.cells old ty (0, 0))) (hs : old.size = cs.size) :
    (execOp a.eval o).run P w = .ok .skip (w.setCells g 0 cs.toList) := by
  have ht : w.there g 0 cs.size := fun j hj => by
    rw [Nat.zero_add]
    refine ⟨?_, frozen_of_row w g j _ _ h⟩
    rw [cell_of_row w g j _ _ _ h, Array.getElem?_eq_getElem (by omega)]
    rfl
  unfold execOp
  simp only [ho, hx, hy, Sem.run_bind, run_storeAt_mid w g 0 t cs ht hi (Array.all_eq_true_iff_forall_mem.2 (fun u hu => h1 u (by simpa using hu))), Result.andThen_ok]
  rfl
theorem exec_build {P : Program} {o : Oper} {a : Act} {w : World} (t : TypeId) (parts : Array (Nat × Operand)) (ho : o.op = .build t parts) (cs : Array Value) (hb : (Instr.build t (parts.map fun (i, x) => (i, a.eval x))).run P w = .ok (.agg cs) w) :
    (execOp a.eval o).run P w = .ok (.value (.agg cs)) w := by
  unfold execOp
  simp only [ho, Sem.run_bind, hb, Result.andThen_ok]
  rfl
theorem own_keepT {w w' : World} {B0 : Nat} {ty : TypeId} {k n : Nat} {v : Value} {xs : List Value} (h : w.ownsRow B0 ty k v n xs) {g : Nat} {cs : Array Value} {T : TypeId} {m : Nat × Nat} (hg : w.heap[g]? = some (.cells cs T m)) (hne : T ≠ ty) (hw : w.grownBy w' (some g)) : w'.ownsRow B0 ty k v n xs := by
  refine h.kept hw ?_
  rcases h.2 with ⟨rfl, _⟩ | ⟨g', cap, cur, rfl, _, q3, _⟩
  · exact .inl rfl
  · right
    intro e
    have : g' = g := by simpa [Value.ownBlock] using e
    subst this
    rw [q3] at hg
    injection hg with hg
    injection hg with _ h2
    exact hne h2.symm
theorem results_cell_two {P : Program} {fn : Func} {p q : Tmp} {ty : TypeId} (h : fn.results = #[.cell p ty, .tmp q]) (tmps : Array Value) (w : World) (g : Nat) (t : TypeId) (cs : Array Value) (fr : Nat × Nat) (d : TypeDesc)
    (hp : tmps.getD p undef = .pointer (some ⟨g, 0, none⟩)) (hg : w.heap[g]? = some (.cells cs t fr))
    (hu : P.underlying ty = some d) (hd : (match d with | .struct _ | .array _ _ => true | _ => false) = true) (hi : (P.info? ty).map (·.size) = some cs.size) (u : Value) (hq : tmps.getD q undef = u) :
    (results fn tmps).run P w = .ok (.tuple #[.agg cs, u]) w := by
  subst hq
  have hp' : tmps[p]?.getD undef = .pointer (some ⟨g, 0, none⟩) := by simpa using hp
  simp [results, h, hp', asAddr, run_loadVar_row w g t ty cs fr d hg hu hd hi]
theorem fromD {w w' : World} (h : Below w.drew.heap.size w.drew w') : Below w.heap.size w w' := ⟨h.os, h.tape, h.output, h.size, h.block⟩
theorem cell_hold2 {w U : World} {a : Addr} {v : Value} (h : w.cell? a = some v) (hb : Below w.heap.size w U) : U.cell? a = some v := (hb.cell (p := a) (World.block_lt_of_cell? w _ h)).trans h
/-- what a Put writes -/
def wrote (e : Ev) : Wr := ⟨e.rep, e.n, e.time, e.doc, e.field, e.text⟩
/-- what is left of writes behind an event that takes dots away -/
def leftOf (L : List Wr) (e : Ev) : List Wr := L.filter (fun y => !decide (y.dot ∈ e.gone))
/-- a state behind an event -/
noncomputable def apErr (e : Ev) : Int := chk e
noncomputable def apSkip (F : Nat → Int) (e : Ev) : Bool := !decide (chk e = 0) || hasB F e.rep e.n
noncomputable def apSeen (F : Nat → Int) (e : Ev) : Nat → Int := if apSkip F e then F else withF F e.rep e.n
noncomputable def apLive (F : Nat → Int) (L : List Wr) (e : Ev) : List Wr := if apSkip F e then L else if e.kind = 1 then insW (leftOf L e) (wrote e) else leftOf L e
/-- a state that is handed back, and an error -/
def StR (w : World) (F : Nat → Int) (L : List Wr) (k : Int) (e : Ending) (w' : World) : Prop := ∃ v, e = .returned (.tuple #[.agg (scs F v), .int .i64 k]) ∧ w'.ownsRow w.heap.size 50 6 v L.length (wcl L) ∧ Below w.heap.size w w'
end Go.Proofs.YtjmglgcifekhgaaDoor
