/- SortedNumbers: the walk. -/
import Derived.Test.YtlajceamjodcjaaNumW
import Derived.Test.YtlajceamjodcjaaSrtLib
import Derived.Test.YtlajceamjodcjaaSrtAwake
namespace Go.Proofs.Ytlajceamjodcjaa
open Go Go.RowKit Hp
set_option linter.unusedVariables false

theorem liesI_take3 {w : World} {p : Option Addr} {l : List Int} (h : LiesI w p l) (k : Nat) : LiesI w p (l.take k) := by
  intro h0
  have hne : l ≠ [] := by rintro rfl; simp at h0
  obtain ⟨b, o, rfl, hc⟩ := h hne
  refine ⟨b, o, rfl, fun i hi => ?_⟩
  rw [List.length_take] at hi
  rw [hc i (by omega)]
  simp [List.getD, List.getElem?_take, show i < k by omega]
set_option maxHeartbeats 2000000
set_option maxRecDepth 100000
theorem sortedNumbers_walk (p : Option Addr) (c : Nat) (l : List Int) (w : World) (hl : CameI w p c l) : Calls Try.prog 4 #[.slice p l.length c] w fun e w' => e = .returned (.bool true) ∧ Below w.heap.size w w' := by
  have hlc := hl.le; have hlr := hl.reach
  by_cases hmin : l.length ≤ 200
  · have CL := Lib.hid hl.lies
    have hmin' : (l.length : Int) ≤ 200 := by omega
    clear hl
    go_enter Try.func4, Try.ntmps4
    go_wp2_with fail
    have hcut : (min (l.length : Int) 200).toNat = l.length := by omega
    simp only [hcut]
    clear hcut
    have ht0 := heap_alloc_new w (.cells #[.slice none 0 0, .slice none 0 0] 47)
    have N0 : NumW w.heap.size [] [] [] 0 ((w.alloc (.cells #[.slice none 0 0, .slice none 0 0] 47)).alloc (.map #[] 0)) := by
      have g1 := heap_alloc_new (w.alloc (.cells #[.slice none 0 0, .slice none 0 0] 47)) (.map #[] 0)
      rw [World.size_alloc] at g1
      exact ⟨⟨.slice none 0 0, .slice none 0 0, (Below.heap_alloc _ _ _ (by simp)).trans ht0, ⟨rfl, .inl ⟨rfl, rfl⟩⟩, ⟨rfl, .inl ⟨rfl, rfl⟩⟩, .inl rfl⟩, g1, MapI.nil, List.Pairwise.nil, rfl⟩
    have hb0 : Below w.heap.size w ((w.alloc (.cells #[.slice none 0 0, .slice none 0 0] 47)).alloc (.map #[] 0)) := ((Below.refl _ w).alloc (Nat.le_refl _) _).alloc (by simp) _
    have HN0 := Lib.hid N0; have HB0 := Lib.hid hb0
    clear ht0 N0 hb0
    rw [run_makeMap]
    rw [World.size_alloc]
    generalize (w.alloc (.cells #[.slice none 0 0, .slice none 0 0] 47)).alloc (.map #[] 0) = w0 at HN0 HB0 ⊢
    go_wp2_with fail
    go_loopw [19] (fun i wr => ∃ (j : Nat) (K V : List Int) (ml : List (Int × Value × Nat)) (cc : Nat), j ≤ l.length ∧ i = .int .i64 j ∧ NumW w.heap.size K V ml cc wr ∧ K.length ≤ j ∧ (∀ x ∈ l.take j, x ∈ K) ∧ Below w.heap.size w wr) (fun i _ => l.length - (intOf i).toNat)
    case atStart => exact ⟨0, [], [], [], 0, Nat.zero_le _, rfl, HN0.out, Nat.le_refl _, fun x hx => by simp at hx, HB0.out⟩
    case round =>
      obtain ⟨j, K, V, ml, cc, hj, rfl, hw, hKj, hall, hb⟩ := hrel
      have HW := Lib.hid hw; have BB := Lib.hid hb; have HA := Lib.hid hall
      clear hw hb hall HN0 HB0
      by_cases hjl : j < l.length
      · obtain ⟨b1, o1, rfl, _, q1⟩ := (CL.out.below BB.out).at (by omega)
        have r1 := q1 j hjl
        have hjl' : (j : Int) < l.length := by omega
        have TK := Lib.hid (show l.take (j + 1) = l.take j ++ [l.getD j 0] by rw [List.take_add_one, List.getElem?_eq_getElem hjl]; simp [List.getD, List.getElem?_eq_getElem hjl])
        clear q1
        generalize l.getD j 0 = x at r1 TK
        have hz := HW.out.lt
        go_wp2_with fail
        refine (tabPut_is (w.heap.size + 2) w.heap.size K V x ((j : Int) + 1) wr HW.out.tab HW.out.rise HW.out.len (by omega) (by omega) hz).mono ?_
        rintro e w2 ⟨rfl, ht2, hb2, hm2⟩
        obtain ⟨ob, ml2, c2, hup, hw3⟩ := HW.out.put x ((j : Int) + 1) ht2 hm2
        have B3 : Below w.heap.size w (mapTo w2 (w.heap.size + 1) ob) := (BB.out.trans hb2).grown (mapTo_grown _ _ _) (by have := hb2.size; omega) (fun k hk => by cases hk; omega)
        have hKl : (keyPut K x).length ≤ j + 1 := by rw [keyPut_len]; split <;> omega
        have hA3 : ∀ z ∈ l.take (j + 1), z ∈ keyPut K x := fun z hz => by
          rw [TK.out] at hz
          rcases List.mem_append.1 hz with hz | hz
          · exact (mem_keyPut K x z).2 (.inr (HA.out z hz))
          · rw [List.mem_singleton.1 hz]; exact (mem_keyPut K x x).2 (.inl rfl)
        have W3 := Lib.hid hw3; have BB3 := Lib.hid B3; have HA3 := Lib.hid hA3
        clear ht2 hb2 hm2 hw3 B3 hA3 HW BB HA TK
        generalize keyPut K x = K2 at W3 HA3 hKl
        generalize valPut K V x ((j : Int) + 1) = V2 at W3
        generalize mapTo w2 (w.heap.size + 1) ob = w3 at hup W3 BB3
        go_wp2_with fail
        go_roundw
        case rel => exact ⟨j + 1, K2, V2, ml2, c2, by omega, by go_num, W3.out, hKl, HA3.out, BB3.out⟩
        case measure => simp [intOf]; omega
      · obtain rfl : j = l.length := by omega
        rw [List.take_length] at HA
        have hjl' : ¬ ((l.length : Nat) : Int) < l.length := by omega
        have hz := HW.out.lt
        have hmp := HW.out.map
        have hms := HW.out.mapLen
        go_wp2_with fail
        refine (tabLen_is (w.heap.size + 2) w.heap.size K V wr HW.out.tab).mono ?_
        rintro e w2 ⟨rfl, rfl⟩
        go_wp2_with fail
        rw [run_len_map (P := Try.prog) w2 48 3 (w.heap.size + 1) (ents ml).toArray cc (by kernel_rfl) hmp, hms]
        clear hmp hms
        go_wp2_with fail
        refine (tabKeys_is (w.heap.size + 2) w.heap.size K V w2 HW.out.tab (by omega)).mono ?_
        rintro e w3 ⟨p3, c3, rfl, hp3, hb3⟩
        have W3 := Lib.hid (HW.out.below hb3); have B3 := Lib.hid (thenBelow BB.out hb3)
        have L3 := Lib.hid hp3
        clear hp3 hb3 HW BB
        go_wp2_with fail
        refine (isSorted_is p3 c3 K w3 L3.out (rise_le W3.out.rise) (by omega)).mono ?_
        rintro e w4 ⟨rfl, hb4⟩
        have W4 := Lib.hid (W3.out.below hb4); have B4 := Lib.hid (thenBelow B3.out hb4)
        clear hb4 W3 B3 L3
        go_wp2_with fail
        go_loopw [44] (fun i wr => ∃ (j : Nat), j ≤ l.length ∧ i = .int .i64 j ∧ NumW w.heap.size K V ml cc wr ∧ Below w.heap.size w wr) (fun i _ => l.length - (intOf i).toNat)
        case atStart => exact ⟨0, Nat.zero_le _, rfl, W4.out, B4.out⟩
        case round =>
          obtain ⟨j, hj, rfl, hw, hb⟩ := hrel
          have HW := Lib.hid hw; have BB := Lib.hid hb
          clear hw hb W4 B4
          by_cases hjl : j < l.length
          · obtain ⟨b1, o1, rfl, _, q1⟩ := (CL.out.below BB.out).at (by omega)
            have r1 := q1 j hjl
            have hjl' : (j : Int) < l.length := by omega
            have hx : l.getD j 0 ∈ K := HA.out _ (by rw [List.getD_eq_getElem?_getD, List.getElem?_eq_getElem hjl]; exact List.getElem_mem hjl)
            clear q1
            generalize l.getD j 0 = x at r1 hx
            go_wp2_with fail
            refine (tabGet_is (w.heap.size + 2) w.heap.size K V x wr HW.out.tab HW.out.rise HW.out.len (by omega) hx).mono ?_
            rintro e w5 ⟨rfl, hb5⟩
            have W5 := Lib.hid (HW.out.below hb5); have B5 := Lib.hid (thenBelow BB.out hb5)
            have LK := W5.out.get x hx
            clear hb5 HW BB
            generalize V.getD (posI K x) 0 = y at LK
            go_wp2_with fail
            go_roundw
            case rel => exact ⟨j + 1, by omega, by go_num, W5.out, B5.out⟩
            case measure => simp [intOf]; omega
          · obtain rfl : j = l.length := by omega
            have hjl' : ¬ ((l.length : Nat) : Int) < l.length := by omega
            go_wp2_with fail
            refine (awake6 wr).mono ?_
            rintro e w5 ⟨rfl, hb5⟩
            have B5 := Lib.hid (thenBelow BB.out hb5)
            clear hb5 HW BB
            go_wp2_with fail
            go_ret
            exact ⟨rfl, B5.out⟩
  · obtain ⟨l1, hl1⟩ : ∃ l1, l1 = l.take 200 := ⟨_, rfl⟩
    have hl1n : l1.length = 200 := by rw [hl1, List.length_take]; omega
    have HL1 := Lib.hid (show (200 : Nat) = l1.length from hl1n.symm)
    have CL := Lib.hid (show LiesI w p l1 by rw [hl1]; exact liesI_take3 hl.lies _)
    have hl1b : l1.length ≤ 200 := by omega
    clear hl1n
    have hmin' : ¬ (l.length : Int) ≤ 200 := by omega
    clear hl hl1
    go_enter Try.func4, Try.ntmps4
    go_wp2_with fail
    have hcut : (min (l.length : Int) 200).toNat = l1.length := by have := HL1.out; omega
    simp only [hcut]
    clear hcut
    have ht0 := heap_alloc_new w (.cells #[.slice none 0 0, .slice none 0 0] 47)
    have N0 : NumW w.heap.size [] [] [] 0 ((w.alloc (.cells #[.slice none 0 0, .slice none 0 0] 47)).alloc (.map #[] 0)) := by
      have g1 := heap_alloc_new (w.alloc (.cells #[.slice none 0 0, .slice none 0 0] 47)) (.map #[] 0)
      rw [World.size_alloc] at g1
      exact ⟨⟨.slice none 0 0, .slice none 0 0, (Below.heap_alloc _ _ _ (by simp)).trans ht0, ⟨rfl, .inl ⟨rfl, rfl⟩⟩, ⟨rfl, .inl ⟨rfl, rfl⟩⟩, .inl rfl⟩, g1, MapI.nil, List.Pairwise.nil, rfl⟩
    have hb0 : Below w.heap.size w ((w.alloc (.cells #[.slice none 0 0, .slice none 0 0] 47)).alloc (.map #[] 0)) := ((Below.refl _ w).alloc (Nat.le_refl _) _).alloc (by simp) _
    have HN0 := Lib.hid N0; have HB0 := Lib.hid hb0
    clear ht0 N0 hb0
    rw [run_makeMap]
    rw [World.size_alloc]
    generalize (w.alloc (.cells #[.slice none 0 0, .slice none 0 0] 47)).alloc (.map #[] 0) = w0 at HN0 HB0 ⊢
    go_wp2_with fail
    go_loopw [19] (fun i wr => ∃ (j : Nat) (K V : List Int) (ml : List (Int × Value × Nat)) (cc : Nat), j ≤ l1.length ∧ i = .int .i64 j ∧ NumW w.heap.size K V ml cc wr ∧ K.length ≤ j ∧ (∀ x ∈ l1.take j, x ∈ K) ∧ Below w.heap.size w wr) (fun i _ => l1.length - (intOf i).toNat)
    case atStart => exact ⟨0, [], [], [], 0, Nat.zero_le _, rfl, HN0.out, Nat.le_refl _, fun x hx => by simp at hx, HB0.out⟩
    case round =>
      obtain ⟨j, K, V, ml, cc, hj, rfl, hw, hKj, hall, hb⟩ := hrel
      have HW := Lib.hid hw; have BB := Lib.hid hb; have HA := Lib.hid hall
      clear hw hb hall HN0 HB0
      by_cases hjl : j < l1.length
      · obtain ⟨b1, o1, rfl, _, q1⟩ := (CL.out.below BB.out).at (by omega)
        have r1 := q1 j hjl
        have hjl' : (j : Int) < l1.length := by omega
        have TK := Lib.hid (show l1.take (j + 1) = l1.take j ++ [l1.getD j 0] by rw [List.take_add_one, List.getElem?_eq_getElem hjl]; simp [List.getD, List.getElem?_eq_getElem hjl])
        clear q1
        generalize l1.getD j 0 = x at r1 TK
        have hz := HW.out.lt
        go_wp2_with fail
        refine (tabPut_is (w.heap.size + 2) w.heap.size K V x ((j : Int) + 1) wr HW.out.tab HW.out.rise HW.out.len (by omega) (by omega) hz).mono ?_
        rintro e w2 ⟨rfl, ht2, hb2, hm2⟩
        obtain ⟨ob, ml2, c2, hup, hw3⟩ := HW.out.put x ((j : Int) + 1) ht2 hm2
        have B3 : Below w.heap.size w (mapTo w2 (w.heap.size + 1) ob) := (BB.out.trans hb2).grown (mapTo_grown _ _ _) (by have := hb2.size; omega) (fun k hk => by cases hk; omega)
        have hKl : (keyPut K x).length ≤ j + 1 := by rw [keyPut_len]; split <;> omega
        have hA3 : ∀ z ∈ l1.take (j + 1), z ∈ keyPut K x := fun z hz => by
          rw [TK.out] at hz
          rcases List.mem_append.1 hz with hz | hz
          · exact (mem_keyPut K x z).2 (.inr (HA.out z hz))
          · rw [List.mem_singleton.1 hz]; exact (mem_keyPut K x x).2 (.inl rfl)
        have W3 := Lib.hid hw3; have BB3 := Lib.hid B3; have HA3 := Lib.hid hA3
        clear ht2 hb2 hm2 hw3 B3 hA3 HW BB HA TK
        generalize keyPut K x = K2 at W3 HA3 hKl
        generalize valPut K V x ((j : Int) + 1) = V2 at W3
        generalize mapTo w2 (w.heap.size + 1) ob = w3 at hup W3 BB3
        go_wp2_with fail
        go_roundw
        case rel => exact ⟨j + 1, K2, V2, ml2, c2, by omega, by go_num, W3.out, hKl, HA3.out, BB3.out⟩
        case measure => simp [intOf]; omega
      · obtain rfl : j = l1.length := by omega
        rw [List.take_length] at HA
        have hjl' : ¬ ((l1.length : Nat) : Int) < l1.length := by omega
        have hz := HW.out.lt
        have hmp := HW.out.map
        have hms := HW.out.mapLen
        go_wp2_with fail
        refine (tabLen_is (w.heap.size + 2) w.heap.size K V wr HW.out.tab).mono ?_
        rintro e w2 ⟨rfl, rfl⟩
        go_wp2_with fail
        rw [run_len_map (P := Try.prog) w2 48 3 (w.heap.size + 1) (ents ml).toArray cc (by kernel_rfl) hmp, hms]
        clear hmp hms
        go_wp2_with fail
        refine (tabKeys_is (w.heap.size + 2) w.heap.size K V w2 HW.out.tab (by omega)).mono ?_
        rintro e w3 ⟨p3, c3, rfl, hp3, hb3⟩
        have W3 := Lib.hid (HW.out.below hb3); have B3 := Lib.hid (thenBelow BB.out hb3)
        have L3 := Lib.hid hp3
        clear hp3 hb3 HW BB
        go_wp2_with fail
        refine (isSorted_is p3 c3 K w3 L3.out (rise_le W3.out.rise) (by omega)).mono ?_
        rintro e w4 ⟨rfl, hb4⟩
        have W4 := Lib.hid (W3.out.below hb4); have B4 := Lib.hid (thenBelow B3.out hb4)
        clear hb4 W3 B3 L3
        go_wp2_with fail
        go_loopw [44] (fun i wr => ∃ (j : Nat), j ≤ l1.length ∧ i = .int .i64 j ∧ NumW w.heap.size K V ml cc wr ∧ Below w.heap.size w wr) (fun i _ => l1.length - (intOf i).toNat)
        case atStart => exact ⟨0, Nat.zero_le _, rfl, W4.out, B4.out⟩
        case round =>
          obtain ⟨j, hj, rfl, hw, hb⟩ := hrel
          have HW := Lib.hid hw; have BB := Lib.hid hb
          clear hw hb W4 B4
          by_cases hjl : j < l1.length
          · obtain ⟨b1, o1, rfl, _, q1⟩ := (CL.out.below BB.out).at (by omega)
            have r1 := q1 j hjl
            have hjl' : (j : Int) < l1.length := by omega
            have hx : l1.getD j 0 ∈ K := HA.out _ (by rw [List.getD_eq_getElem?_getD, List.getElem?_eq_getElem hjl]; exact List.getElem_mem hjl)
            clear q1
            generalize l1.getD j 0 = x at r1 hx
            go_wp2_with fail
            refine (tabGet_is (w.heap.size + 2) w.heap.size K V x wr HW.out.tab HW.out.rise HW.out.len (by omega) hx).mono ?_
            rintro e w5 ⟨rfl, hb5⟩
            have W5 := Lib.hid (HW.out.below hb5); have B5 := Lib.hid (thenBelow BB.out hb5)
            have LK := W5.out.get x hx
            clear hb5 HW BB
            generalize V.getD (posI K x) 0 = y at LK
            go_wp2_with fail
            go_roundw
            case rel => exact ⟨j + 1, by omega, by go_num, W5.out, B5.out⟩
            case measure => simp [intOf]; omega
          · obtain rfl : j = l1.length := by omega
            have hjl' : ¬ ((l1.length : Nat) : Int) < l1.length := by omega
            go_wp2_with fail
            refine (awake6 wr).mono ?_
            rintro e w5 ⟨rfl, hb5⟩
            have B5 := Lib.hid (thenBelow BB.out hb5)
            clear hb5 HW BB
            go_wp2_with fail
            go_ret
            exact ⟨rfl, B5.out⟩
end Go.Proofs.Ytlajceamjodcjaa
