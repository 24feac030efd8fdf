/- Contracts of the document's own third step, Stem and Stop. -/
import Derived.Test.YtgdjkddljnjckaaDoorStemRef2
namespace Go.Proofs.YtgdjkddljnjckaaDoor
open Go Go.RowKit
set_option linter.unusedVariables false

def tx (l : List UInt8) : ByteArray := ⟨l.toArray⟩
theorem tx_list (l : List UInt8) : (tx l).data.toList = l := rfl
theorem tx_size (l : List UInt8) : (tx l).size = l.length := by rw [← size_toList, tx_list]
def pairAt (i : Nat) : List UInt8 × List UInt8 := Stm.pairs.getD i ([], [])
/-- the two lists of ends, the call's own -/
def Tab (w : World) (g : Nat) : Prop := ∀ i, i < 7 → w.cell? ⟨g, i, none⟩ = some (.string (tx (pairAt i).1)) ∧ w.cell? ⟨g + 1, i, none⟩ = some (.string (tx (pairAt i).2))
theorem third_step (i : Nat) (hi : i < 7) (l : List UInt8) : Stm.thirdOf (Stm.pairs.drop i) l = if Stm.ends l (pairAt i).1 = true ∧ (pairAt i).1.length + 3 ≤ l.length then Stm.less l (pairAt i).1.length ++ (pairAt i).2 else Stm.thirdOf (Stm.pairs.drop (i + 1)) l := by
  have hi' : i < Stm.pairs.length := hi
  rw [List.drop_eq_getElem_cons hi']
  have : pairAt i = Stm.pairs[i] := by simp [pairAt, List.getD, List.getElem?_eq_getElem hi']
  rw [this]; rfl
theorem pair_small : ∀ i, i < 7 → (pairAt i).1.length ≤ 10 ∧ (pairAt i).2.length ≤ 10 := by decide

def olds : Array Value := #[.string ⟨#[105, 122, 97, 116, 105, 111, 110]⟩, .string ⟨#[97, 116, 105, 111, 110]⟩, .string ⟨#[102, 117, 108, 108, 121]⟩, .string ⟨#[110, 101, 115, 115]⟩, .string ⟨#[109, 101, 110, 116]⟩, .string ⟨#[97, 108, 108, 121]⟩, .string ⟨#[108, 121]⟩]
def puts : Array Value := #[.string ⟨#[105, 122, 101]⟩, .string ⟨#[97, 116, 101]⟩, .string ⟨#[102, 117, 108]⟩, .string ⟨#[]⟩, .string ⟨#[]⟩, .string ⟨#[97, 108]⟩, .string ⟨#[]⟩]
theorem olds_at (i : Nat) (hi : i < 7) : olds[i]? = some (.string (tx (pairAt i).1)) := by
  match i, hi with
  | 0, _ => rfl | 1, _ => rfl | 2, _ => rfl | 3, _ => rfl | 4, _ => rfl | 5, _ => rfl | 6, _ => rfl
  | n + 7, h => omega
theorem puts_at (i : Nat) (hi : i < 7) : puts[i]? = some (.string (tx (pairAt i).2)) := by
  match i, hi with
  | 0, _ => rfl | 1, _ => rfl | 2, _ => rfl | 3, _ => rfl | 4, _ => rfl | 5, _ => rfl | 6, _ => rfl
  | n + 7, h => omega
theorem tab_made (w : World) (t : TypeId) : Tab ((w.alloc (.cells olds t)).alloc (.cells puts t)) w.heap.size := by
  intro i hi
  constructor
  · exact cell_alloc _ (by rw [cell_of_row _ w.heap.size i _ _ _ (heap_alloc_new w _)]; exact olds_at i hi)
  · have := heap_alloc_new (w.alloc (.cells olds t)) (.cells puts t)
    rw [show (w.alloc (.cells olds t)).heap.size = w.heap.size + 1 from by simp] at this
    rw [cell_of_row _ (w.heap.size + 1) i _ _ _ this]; exact puts_at i hi
theorem Tab.below {w w' : World} {g : Nat} (h : Tab w g) (hb : Below w.heap.size w w') : Tab w' g := fun i hi => by
  obtain ⟨h1, h2⟩ := h i hi
  exact ⟨(hb.cell (p := ⟨g, i, none⟩) (World.block_lt_of_cell? w _ h1)).trans h1, (hb.cell (p := ⟨g + 1, i, none⟩) (World.block_lt_of_cell? w _ h2)).trans h2⟩
theorem less_tx (s : ByteArray) (m : Int) (n : Nat) (hm : m = n) (hn : n ≤ s.size) (hs : s.size ≤ 5000) (w : World) : Calls Tryd.prog 23 #[.string s, .int .i64 m] w fun e w' => e = .returned (.string (tx (Stm.less s.data.toList n))) ∧ Below w.heap.size w w' :=
  (less_at s m n hm w hn (by omega)).mono fun e w' ⟨t, h1, h2, h3⟩ => ⟨by rw [h1, show t = tx (Stm.less s.data.toList n) from toList_ext h2], h3 ▸ Below.refl _ _⟩

set_option maxHeartbeats 4000000 in
theorem refThird_is (s : ByteArray) (w : World) (hs : s.size ≤ 5000) :
    Calls Tryd.prog 17 #[.string s] w (Txt w (Stm.third s.data.toList)) := by
  obtain ⟨R, hR⟩ : ∃ R, R = Stm.third s.data.toList := ⟨_, rfl⟩
  rw [← hR]
  have HR : Hid (R = Stm.thirdOf (Stm.pairs.drop 0) s.data.toList) := hR
  clear hR
  go_enter Tryd.func17, Tryd.ntmps17
  go_wp2
  have T0 : Hid (Tab ((w.alloc (.cells olds 9)).alloc (.cells puts 9)) w.heap.size) := tab_made w _
  have B0 : Hid (Below w.heap.size w ((w.alloc (.cells olds 9)).alloc (.cells puts 9))) := ((Below.refl _ w).alloc (Nat.le_refl _) _).alloc (by simp) _
  change Code.wp _ _ _ _ ((w.alloc (.cells olds 9)).alloc (.cells puts 9))
  generalize (w.alloc (.cells olds 9)).alloc (.cells puts 9) = w0 at T0 B0 ⊢
  obtain ⟨g, hg⟩ : ∃ g, g = w.heap.size := ⟨_, rfl⟩
  rw [← hg] at T0
  simp only [← hg]
  clear hg
  go_loopw [11] (fun i wr => ∃ k : Nat, k ≤ 7 ∧ i = .int .i64 k ∧ Below w.heap.size w wr ∧ Tab wr g ∧ R = Stm.thirdOf (Stm.pairs.drop k) s.data.toList) (fun i _ => 7 - (intOf i).toNat)
  case atStart => exact ⟨0, Nat.zero_le _, rfl, B0.out, T0.out, HR.out⟩
  case round =>
    obtain ⟨k, hk, rfl, hb, htab, hrest⟩ := hrel
    have HR := Lib.hid hrest; have B := Lib.hid hb; have T := Lib.hid htab
    by_cases hk7 : k < 7
    · have hst := third_step k hk7 s.data.toList
      obtain ⟨z1, z2⟩ := pair_small k hk7
      obtain ⟨c1, c2⟩ := htab k hk7
      rw [← tx_size] at z1 z2
      have hEN := ends_is s (tx (pairAt k).1)
      rw [tx_list] at hEN
      have hst2 : Stm.thirdOf (Stm.pairs.drop k) s.data.toList = if Stm.ends s.data.toList (pairAt k).1 = true ∧ (tx (pairAt k).1).size + 3 ≤ s.size then Stm.less s.data.toList (tx (pairAt k).1).size ++ (tx (pairAt k).2).data.toList else Stm.thirdOf (Stm.pairs.drop (k + 1)) s.data.toList := by
        rw [tx_size, tx_list, ← size_toList s]; exact hst
      clear hst
      obtain ⟨E, hE⟩ : ∃ E, E = Stm.ends s.data.toList (pairAt k).1 := ⟨_, rfl⟩
      rw [← hE] at hst2 hEN
      clear hE
      generalize tx (pairAt k).1 = e at *
      generalize tx (pairAt k).2 = q at *
      have EN := Lib.hid (hEN wr (by omega))
      have ST := Lib.hid hst2
      clear hst2 hEN hrest hb htab
      cases E with
      | false =>
        have HN : Hid (R = Stm.thirdOf (Stm.pairs.drop (k + 1)) s.data.toList) := by show R = _; rw [HR.out, ST.out, if_neg (fun h => Bool.noConfusion h.1)]
        clear ST c2
        go_wp2_with fail
        refine EN.out.mono ?_
        rintro e w' ⟨rfl, rfl⟩
        clear EN
        go_wp2
        go_roundw
        case rel => exact ⟨k + 1, by omega, by go_num, B.out, T.out, HN.out⟩
        case measure => simp [intOf]; omega
      | true =>
        by_cases hl : e.size + 3 ≤ s.size
        · have hl' : (s.size : Int) ≥ (e.size : Int) + 3 := by omega
          have HN : Hid (R = Stm.less s.data.toList e.size ++ q.data.toList) := by show R = _; rw [HR.out, ST.out, if_pos ⟨rfl, hl⟩]
          have hsz := Stm.less_len s.data.toList e.size
          obtain ⟨u, hu⟩ : ∃ u, u = tx (Stm.less s.data.toList e.size) := ⟨_, rfl⟩
          have hul : u.data.toList = Stm.less s.data.toList e.size := by rw [hu]; rfl
          have hus : u.size ≤ 5000 := by rw [← size_toList, hul, hsz, size_toList]; omega
          have cL := Lib.hid (quiet_callS (w := wr) (less_tx s e.size e.size rfl (by omega) hs))
          rw [← hu] at cL
          rw [← hul] at HN
          clear ST hsz hu hul
          have d2 := cell_regrown c2
          have hadd : ¬ 9223372036854775807 < u.size + q.size := by omega
          go_wp2_with fail
          refine EN.out.mono ?_
          rintro e w' ⟨rfl, rfl⟩
          clear EN
          go_wp2_with fail
          refine wp_region_quiet_below (by kernel_rfl) (by kernel_rfl) ?_
          iterate 3 (quiet_step (fail))
          quiet_step (exact cL.out _ _)
          repeat (quiet_step (fail))
          refine wpQuiet_nil ?_
          rintro _ ⟨⟨dq, osq⟩, rfl⟩
          have BQ := Lib.hid (thenBelow B.out (below_regrown wr dq osq))
          generalize Sort.grow (redrawn wr dq) osq = wq at BQ ⊢
          clear cL c1 c2 d2
          go_wp2_with fail
          go_ret
          exact ⟨_, rfl, by rw [HN.out]; simp, BQ.out⟩
        · have hl' : ¬ (s.size : Int) ≥ (e.size : Int) + 3 := by omega
          have HN : Hid (R = Stm.thirdOf (Stm.pairs.drop (k + 1)) s.data.toList) := by show R = _; rw [HR.out, ST.out, if_neg (fun h => hl h.2)]
          clear ST c2
          go_wp2_with fail
          refine EN.out.mono ?_
          rintro e w' ⟨rfl, rfl⟩
          clear EN
          go_wp2
          go_roundw
          case rel => exact ⟨k + 1, by omega, by go_num, B.out, T.out, HN.out⟩
          case measure => simp [intOf]; omega
    · obtain rfl : k = 7 := by omega
      go_wp2
      go_ret
      exact ⟨s, rfl, by rw [HR.out]; rfl, B.out⟩

theorem ref_le (f : List UInt8 → List UInt8) (g : List UInt8) (h : (f g).length ≤ g.length) : (f g).length ≤ g.length := h
theorem first_le (l : List UInt8) (h : Stm.plain l = true) : (Stm.first l).length ≤ l.length := by
  rw [← Stm.first_eq]; exact (Stm.chg_keeps 1 l (Stm.plain_len l h) Stm.rows Stm.rows_ok).1
theorem second_le (l : List UInt8) (h : Stm.plain l = true) : (Stm.second l).length ≤ l.length := by
  rw [← Stm.second_eq]; exact (Stm.step_keeps 2 l h).1

set_option maxHeartbeats 4000000 in
theorem refStem_is (s : ByteArray) (w : World) (hs : s.size ≤ 5000) :
    Calls Tryd.prog 7 #[.string s] w (Txt w (Stm.stem s.data.toList)) := by
  rw [Stm.stem_eq]
  obtain ⟨R, hR⟩ : ∃ R, R = Stm.refStem s.data.toList := ⟨_, rfl⟩
  rw [← hR]
  unfold Stm.refStem at hR
  have P1 := Lib.hid (plain_is s w (by omega))
  cases h1 : Stm.plain s.data.toList with
  | false =>
    rw [h1] at P1
    rw [h1, if_neg (fun h => Bool.noConfusion h)] at hR
    have HR := Lib.hid hR
    clear h1 hR
    go_enter Tryd.func7, Tryd.ntmps7
    go_wp2_with fail
    refine P1.out.mono ?_
    rintro e w' ⟨rfl, rfl⟩
    clear P1
    go_wp2_with fail
    go_ret
    exact ⟨s, rfl, HR.out.symm, Below.refl _ _⟩
  | true =>
    rw [h1] at P1
    rw [h1, if_pos rfl] at hR
    have hl := Stm.plain_len _ h1
    have hf := first_le _ h1
    rw [size_toList] at hl hf
    have HR := Lib.hid hR
    have F := Lib.hid (refFirst_is s w hs (by omega))
    clear h1 hR
    go_enter Tryd.func7, Tryd.ntmps7
    go_wp2_with fail
    refine P1.out.mono ?_
    rintro e w' ⟨rfl, rfl⟩
    clear P1
    go_wp2_with fail
    refine F.out.mono ?_
    rintro e w' ⟨t, rfl, ht, rfl⟩
    rw [← ht, size_toList] at hf
    rw [← ht] at HR
    clear F ht
    have P2 := Lib.hid (plain_is t w (by omega))
    cases h2 : Stm.plain t.data.toList with
    | false =>
      rw [h2] at P2
      rw [h2, if_neg (fun h => Bool.noConfusion h)] at HR
      clear h2
      go_wp2_with fail
      refine P2.out.mono ?_
      rintro e w' ⟨rfl, rfl⟩
      clear P2
      go_wp2_with fail
      go_ret
      exact ⟨t, rfl, HR.out.symm, Below.refl _ _⟩
    | true =>
      rw [h2] at P2
      rw [h2, if_pos rfl] at HR
      have hl2 := Stm.plain_len _ h2
      have hf2 := second_le _ h2
      rw [size_toList] at hl2 hf2
      have G := Lib.hid (refSecond_is t w (by omega) (by omega))
      clear h2
      go_wp2_with fail
      refine P2.out.mono ?_
      rintro e w' ⟨rfl, rfl⟩
      clear P2
      go_wp2_with fail
      refine G.out.mono ?_
      rintro e w1 ⟨u, rfl, hu, hb1⟩
      rw [← hu, size_toList] at hf2
      rw [← hu] at HR
      have B1 := Lib.hid hb1
      clear G hu hb1
      have P3 := Lib.hid (plain_is u w1 (by omega))
      cases h3 : Stm.plain u.data.toList with
      | false =>
        rw [h3] at P3
        rw [h3, if_neg (fun h => Bool.noConfusion h)] at HR
        clear h3
        go_wp2_with fail
        refine P3.out.mono ?_
        rintro e w' ⟨rfl, rfl⟩
        clear P3
        go_wp2_with fail
        go_ret
        exact ⟨u, rfl, HR.out.symm, B1.out⟩
      | true =>
        rw [h3] at P3
        rw [h3, if_pos rfl] at HR
        have H3 := Lib.hid (refThird_is u w1 (by omega))
        clear h3
        go_wp2_with fail
        refine P3.out.mono ?_
        rintro e w' ⟨rfl, rfl⟩
        clear P3
        go_wp2_with fail
        refine H3.out.mono ?_
        rintro e w2 ⟨v, rfl, hv, hb2⟩
        have B2 := Lib.hid (thenBelow B1.out hb2)
        have HV := Lib.hid hv
        clear H3 hv hb2
        go_wp2_with fail
        go_ret
        exact ⟨v, rfl, by rw [HV.out, HR.out], B2.out⟩

theorem str_eqR (s t : ByteArray) : (s.toList == t.toList) = decide (s.data.toList = t.data.toList) := by
  rw [Lib.toList_data, Lib.toList_data, Bool.eq_iff_iff, beq_iff_eq, decide_eq_true_eq]
def stopAt (i : Nat) : List UInt8 := Stm.stops.getD i []
def stopVals : Array Value := #[.string ⟨#[97]⟩, .string ⟨#[97, 110]⟩, .string ⟨#[97, 110, 100]⟩, .string ⟨#[97, 115]⟩, .string ⟨#[97, 116]⟩, .string ⟨#[98, 101]⟩, .string ⟨#[98, 121]⟩, .string ⟨#[102, 111, 114]⟩, .string ⟨#[105, 110]⟩, .string ⟨#[105, 115]⟩, .string ⟨#[105, 116]⟩, .string ⟨#[111, 102]⟩, .string ⟨#[111, 110]⟩, .string ⟨#[111, 114]⟩, .string ⟨#[116, 104, 101]⟩, .string ⟨#[116, 111]⟩]
theorem stopVals_at (i : Nat) (hi : i < 16) : stopVals[i]? = some (.string (tx (stopAt i))) := by
  match i, hi with
  | 0, _ => rfl | 1, _ => rfl | 2, _ => rfl | 3, _ => rfl | 4, _ => rfl | 5, _ => rfl | 6, _ => rfl | 7, _ => rfl
  | 8, _ => rfl | 9, _ => rfl | 10, _ => rfl | 11, _ => rfl | 12, _ => rfl | 13, _ => rfl | 14, _ => rfl | 15, _ => rfl
  | n + 16, h => omega
theorem stop_drop (i : Nat) (hi : i < 16) (l : List UInt8) : (Stm.stops.drop i).contains l = (decide (stopAt i = l) || (Stm.stops.drop (i + 1)).contains l) := by
  have hi' : i < Stm.stops.length := hi
  rw [List.drop_eq_getElem_cons hi']
  have : stopAt i = Stm.stops[i] := by simp [stopAt, List.getD, List.getElem?_eq_getElem hi']
  rw [this, List.contains_cons]
  congr 1
  rw [Bool.eq_iff_iff, beq_iff_eq, decide_eq_true_eq]
  exact ⟨fun h => h.symm, fun h => h.symm⟩

set_option maxHeartbeats 4000000 in
theorem refStop_is (s : ByteArray) (w : World) : Calls Tryd.prog 9 #[.string s] w fun e w' => e = .returned (.bool (Stm.stop s.data.toList)) ∧ Below w.heap.size w w' := by
  obtain ⟨R, hR⟩ : ∃ R, R = Stm.stop s.data.toList := ⟨_, rfl⟩
  rw [← hR]
  have HR : Hid (R = (Stm.stops.drop 0).contains s.data.toList) := hR
  clear hR
  go_enter Tryd.func9, Tryd.ntmps9
  go_wp2
  change Code.wp _ _ _ _ (w.alloc (.cells stopVals 9))
  have B0 : Hid (Below w.heap.size w (w.alloc (.cells stopVals 9))) := (Below.refl _ w).alloc (Nat.le_refl _) _
  have T0 : Hid (∀ i, i < 16 → (w.alloc (.cells stopVals 9)).cell? ⟨w.heap.size, i, none⟩ = some (.string (tx (stopAt i)))) := fun i hi => by
    rw [cell_of_row _ w.heap.size i _ _ _ (heap_alloc_new w _)]; exact stopVals_at i hi
  generalize w.alloc (.cells stopVals 9) = w0 at T0 B0 ⊢
  obtain ⟨g, hg⟩ : ∃ g, g = w.heap.size := ⟨_, rfl⟩
  rw [← hg] at T0
  simp only [← hg]
  clear hg
  go_loopw [7] (fun i wr => ∃ k : Nat, k ≤ 16 ∧ i = .int .i64 k ∧ wr = w0 ∧ R = (Stm.stops.drop k).contains s.data.toList) (fun i _ => 16 - (intOf i).toNat)
  case atStart => exact ⟨0, Nat.zero_le _, rfl, rfl, HR.out⟩
  case round =>
    obtain ⟨k, hk, rfl, rfl, hrest⟩ := hrel
    have RE := Lib.hid hrest
    clear hrest HR
    by_cases hk16 : k < 16
    · have hst := stop_drop k hk16 s.data.toList
      have c1 := T0.out k hk16
      have hse := str_eqR (tx (stopAt k)) s
      rw [tx_list] at hse
      generalize tx (stopAt k) = e at *
      obtain ⟨E, hE⟩ : ∃ E, E = decide (stopAt k = s.data.toList) := ⟨_, rfl⟩
      rw [← hE] at hst hse
      have ST := Lib.hid hst
      clear hst hE
      cases E with
      | true =>
        go_wp2
        go_ret
        exact ⟨ret_bool (by rw [RE.out, ST.out, Bool.true_or]), B0.out⟩
      | false =>
        go_wp2
        go_roundw
        case rel => exact ⟨k + 1, by omega, by go_num, by first | rfl | trivial, by rw [RE.out, ST.out, Bool.false_or]⟩
        case measure => simp [intOf]; omega
    · obtain rfl : k = 16 := by omega
      go_wp2
      go_ret
      exact ⟨ret_bool (by rw [RE.out]; rfl), B0.out⟩
end Go.Proofs.YtgdjkddljnjckaaDoor
