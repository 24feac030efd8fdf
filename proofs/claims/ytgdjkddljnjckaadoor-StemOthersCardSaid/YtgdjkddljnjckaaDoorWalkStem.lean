/- The example of layer 16; the walks of StemWords and StemShort. -/
import Derived.Test.YtgdjkddljnjckaaDoorStemBare
import Derived.Test.YtgdjkddljnjckaaDoorStemRef3
import Derived.Lib.ConvBytes
namespace Go.Proofs.YtgdjkddljnjckaaDoor
open Go Go.RowKit
set_option linter.unusedVariables false

theorem stem_tx (l l2 : List UInt8) (hl : l.length ≤ 100) (he : Stm.stem l = l2) (w : World) (hT : Ends w) : Calls Tryd.prog 6 #[.string ⟨l.toArray⟩] w fun e w' => e = .returned (.string ⟨l2.toArray⟩) ∧ Below w.heap.size w w' :=
  (stem_is ⟨l.toArray⟩ w (by rw [show (⟨l.toArray⟩ : ByteArray).size = l.length from rfl]; omega) hT).mono fun e w' ⟨t, h1, h2, h3⟩ => ⟨by rw [h1, show t = ⟨l2.toArray⟩ from toList_ext (by rw [h2]; exact he)], h3⟩

set_option maxHeartbeats 1000000 in
theorem awake16 (w : World) (hT : Ends w) : Calls Tryd.prog 10 #[] w (Yes w) := by
  have HT := Lib.hid hT
  have H1 := Lib.hid (stem_tx [114, 117, 110, 110, 105, 110, 103] [114, 117, 110] (by decide) Stm.ex1 w hT)
  clear hT
  go_enter Tryd.func10, Tryd.ntmps10
  go_wp2_with fail
  refine H1.out.mono ?_
  rintro e w1 ⟨rfl, b1⟩
  have B1 := Lib.hid b1
  have T1 := Lib.hid (HT.out.below b1)
  have H2 := Lib.hid (stem_tx [102, 111, 120, 101, 115] [102, 111, 120, 101] (by decide) Stm.ex2 w1 T1.out)
  clear b1 H1 HT
  go_wp2_with fail
  refine H2.out.mono ?_
  rintro e w2 ⟨rfl, b2⟩
  have B2 := Lib.hid (thenBelow B1.out b2)
  have T2 := Lib.hid (T1.out.below b2)
  have H3 := Lib.hid (stem_tx [112, 111, 110, 105, 101, 115] [112, 111, 110, 121] (by decide) Stm.ex3 w2 T2.out)
  clear b2 H2 T1
  go_wp2_with fail
  refine H3.out.mono ?_
  rintro e w3 ⟨rfl, b3⟩
  have B3 := Lib.hid (thenBelow B2.out b3)
  have T3 := Lib.hid (T2.out.below b3)
  have H4 := Lib.hid (stem_tx [107, 105, 110, 100, 110, 101, 115, 115] [107, 105, 110, 100] (by decide) Stm.ex4 w3 T3.out)
  clear b3 H3 T2
  go_wp2_with fail
  refine H4.out.mono ?_
  rintro e w4 ⟨rfl, b4⟩
  have B4 := Lib.hid (thenBelow B3.out b4)
  have H5 := stop_is ⟨#[116, 104, 101]⟩ w4
  rw [show Stm.stop (⟨#[116, 104, 101]⟩ : ByteArray).data.toList = true from by decide] at H5
  have H5 := Lib.hid H5
  clear b4 H4
  go_wp2_with fail
  refine H5.out.mono ?_
  rintro e w5 ⟨rfl, rfl⟩
  go_wp2_with fail
  go_ret
  exact ⟨rfl, B4.out⟩

set_option maxHeartbeats 2000000 in
theorem stemWords_walk (s : ByteArray) (W : World) (hs : s.size ≤ 140737488351232) (hT : Ends W) :
    Calls Tryd.prog 3 #[.string s] W (Yes W) := by
  have HT := Lib.hid hT
  by_cases hbig : s.size ≤ 4096
  · have hbig' : ¬ (s.size : Int) > 4096 := by omega
    have F1 := Lib.hid (stem_is s W (by omega) hT)
    clear hT
    go_enter Tryd.func3, Tryd.ntmps3
    go_wp2_with fail
    refine F1.out.mono ?_
    rintro e w1 ⟨t, rfl, ht, hb1⟩
    have B1 := Lib.hid hb1; have H1 := Lib.hid ht
    have F2 := Lib.hid (refStem_is s w1 (by omega))
    clear F1 hb1 ht
    go_wp2_with fail
    refine F2.out.mono ?_
    rintro e w2 ⟨u, rfl, hu, hb2⟩
    have B2 := Lib.hid (thenBelow B1.out hb2)
    obtain rfl : u = t := toList_ext (by rw [hu, H1.out])
    have F3 := Lib.hid (stop_is s w2)
    have F4 := Lib.hid (refStop_is s w2)
    clear F2 hb2 hu H1
    go_wp2_with fail
    refine F3.out.mono ?_
    rintro e w3 ⟨rfl, rfl⟩
    clear F3
    go_wp2_with fail
    refine F4.out.mono ?_
    rintro e w4 ⟨rfl, hb4⟩
    have B4 := Lib.hid (thenBelow B2.out hb4)
    have AW := Lib.hid (awake16 w4 (HT.out.below B4.out))
    clear F4 hb4
    go_wp2_with fail
    refine AW.out.mono ?_
    rintro e w5 ⟨rfl, hb5⟩
    have B5 := Lib.hid (thenBelow B4.out hb5)
    clear AW hb5
    go_wp2_with fail
    go_ret
    exact ⟨ret_bool (by first | rfl | (simp; done)), B5.out⟩
  · have hbig' : (s.size : Int) > 4096 := by omega
    have AW := Lib.hid (awake16 W hT)
    clear hT
    go_enter Tryd.func3, Tryd.ntmps3
    go_wp2_with fail
    refine AW.out.mono ?_
    rintro e w3 ⟨rfl, hb3⟩
    have B3 := Lib.hid hb3
    clear AW hb3
    go_wp2_with fail
    go_ret
    exact ⟨ret_bool (by first | rfl | (simp; done)), B3.out⟩

set_option maxHeartbeats 2000000 in
theorem stemShort_walk (s : ByteArray) (W : World) (hs : s.size ≤ 140737488351232) (hT : Ends W) :
    Calls Tryd.prog 4 #[.string s] W (Yes W) := by
  have HT := Lib.hid hT
  by_cases hbig : s.size ≤ 4096
  · have hbig' : ¬ (s.size : Int) > 4096 := by omega
    have F1 := Lib.hid (stem_is s W (by omega) hT)
    obtain ⟨k1, k2⟩ := Stm.stem_keeps s.data.toList
    clear hT
    go_enter Tryd.func4, Tryd.ntmps4
    go_wp2_with fail
    refine F1.out.mono ?_
    rintro e w1 ⟨t, rfl, ht, hb1⟩
    rw [← ht] at k1 k2
    rw [size_toList, size_toList] at k1
    have k1' : (t.size : Int) ≤ s.size := by omega
    have B1 := Lib.hid hb1
    have K2 := Lib.hid k2
    clear F1 ht k2
    have T1 := HT.out.below hb1
    have cA : ∀ (d : Nat) (os : Array Obj), Calls Tryd.prog 10 #[] (Sort.grow (redrawn w1 d) os) fun e w'' => e = .returned (.bool true) ∧ ∃ p : Regrown, w'' = Sort.grow (redrawn w1 p.d) p.os :=
      fun d os => Calls.regrown_of (awake16 _ (T1.below (below_regrown w1 d os)))
    have CA := Lib.hid cA
    clear hb1 cA T1
    by_cases h0 : s.size = 0
    · have ht0 : t.size = 0 := by omega
      obtain rfl : s = ⟨#[]⟩ := ByteArray.ext (Array.eq_empty_of_size_eq_zero h0)
      obtain rfl : t = ⟨#[]⟩ := ByteArray.ext (Array.eq_empty_of_size_eq_zero ht0)
      clear K2 ht0
      go_wp2_with fail
      refine wp_region_quiet_below (by kernel_rfl) (by kernel_rfl) ?_
      repeat (quiet_step (exact CA.out _ _))
      refine wpQuiet_nil ?_
      rintro _ ⟨⟨dq, osq⟩, rfl⟩
      have BQ := Lib.hid (thenBelow B1.out (below_regrown w1 dq osq))
      generalize Sort.grow (redrawn w1 dq) osq = wq at BQ ⊢
      clear CA
      go_wp2_with fail
      go_ret
      exact ⟨ret_bool (by first | rfl | (simp; done)), BQ.out⟩
    · have hpos : 0 < s.size := by omega
      have hh := K2.out
      have hs0 : s.data.toList.head? = some (s[0]'hpos) := by
        have := tk s 0 hpos
        rw [Nat.zero_add, List.take_zero, List.nil_append] at this
        cases hl : s.data.toList with
        | nil => have := size_toList s; rw [hl] at this; simp at this; omega
        | cons c l => rw [hl] at this; simp at this; simp [this]
      have htpos : 0 < t.size := by
        rw [hs0] at hh
        cases hl : t.data.toList with
        | nil => rw [hl] at hh; cases hh
        | cons c l => have := size_toList t; rw [hl] at this; simp at this; omega
      have ht0 : t.data.toList.head? = some (t[0]'htpos) := by
        have := tk t 0 htpos
        rw [Nat.zero_add, List.take_zero, List.nil_append] at this
        cases hl : t.data.toList with
        | nil => have := size_toList t; rw [hl] at this; simp at this; omega
        | cons c l => rw [hl] at this; simp at this; simp [this]
      have h00 : t[0]'htpos = s[0]'hpos := by rw [hs0, ht0] at hh; exact Option.some.inj hh
      have e1 : (s.toList == ([] : List UInt8)) = false := by
        rw [beq_eq_false_iff_ne, Lib.toList_data]; intro h; have := size_toList s; rw [h] at this; simp at this; omega
      have e2 : (t.toList == ([] : List UInt8)) = false := by
        rw [beq_eq_false_iff_ne, Lib.toList_data]; intro h; have := size_toList t; rw [h] at this; simp at this; omega
      have e3 : ¬ s.toList = ([] : List UInt8) := by rw [beq_eq_false_iff_ne] at e1; exact e1
      have e4 : ¬ t.toList = ([] : List UInt8) := by rw [beq_eq_false_iff_ne] at e2; exact e2
      have p1 : (0 : Int) < s.size := by omega
      have p2 : (0 : Int) < t.size := by omega
      clear hh hs0 ht0 K2
      go_wp2_with fail
      refine wp_region_quiet_below (by kernel_rfl) (by kernel_rfl) ?_
      repeat (quiet_step (exact CA.out _ _))
      refine wpQuiet_nil ?_
      rintro _ ⟨⟨dq, osq⟩, rfl⟩
      have BQ := Lib.hid (thenBelow B1.out (below_regrown w1 dq osq))
      generalize Sort.grow (redrawn w1 dq) osq = wq at BQ ⊢
      clear CA
      go_wp2_with fail
      go_ret
      exact ⟨ret_bool (by first | rfl | (simp; done)), BQ.out⟩
  · have hbig' : (s.size : Int) > 4096 := by omega
    have AW := Lib.hid (awake16 W hT)
    clear hT
    go_enter Tryd.func4, Tryd.ntmps4
    go_wp2_with fail
    refine AW.out.mono ?_
    rintro e w3 ⟨rfl, hb3⟩
    have B3 := Lib.hid hb3
    clear AW hb3
    go_wp2_with fail
    go_ret
    exact ⟨ret_bool (by first | rfl | (simp; done)), B3.out⟩

/-- '[]byte(s)' : a row of its own, in which a byte may be turned -/
theorem bytes_of_string (s : ByteArray) (W : World) (h0 : 0 < s.size) : ∃ cap w1, (convert 9 25 (.string s)).run Tryd.prog W = .ok (.slice (some ⟨W.heap.size, 0, none⟩) s.size cap) w1 ∧ s.size ≤ cap ∧ Below W.heap.size W w1 ∧
    (∀ j, j < s.size → w1.cell? ⟨W.heap.size, j, none⟩ = some (.int .u8 ((s.data.toList.getD j 0).toNat : Int)) ∧ w1.frozen? ⟨W.heap.size, j, none⟩ = false) ∧
    ∀ j (c : UInt8), j < s.size → Lies (w1.setCell ⟨W.heap.size, j, none⟩ (.int .u8 (c.toNat : Int))) (some ⟨W.heap.size, 0, none⟩) (s.data.toList.set j c) ∧ Below W.heap.size W (w1.setCell ⟨W.heap.size, j, none⟩ (.int .u8 (c.toNat : Int))) := by
  have hb : Below W.heap.size W (Lib.bytesWorld W 5 s) := ⟨rfl, rfl, rfl, by rw [Lib.bytesWorld_size]; omega, fun k hk => Lib.bytesWorld_at_old W _ s k hk⟩
  have hcell := fun j hj => Lib.bytesWorld_cell W 5 s j hj
  have hsz : s.size ≤ (Lib.bytesCells W 5 s).size := by
    unfold Lib.bytesCells; simp
  refine ⟨_, _, Lib.run_convert_string_bytes W 9 25 5 s Tryd.underlying9 Tryd.underlying25 Tryd.underlying5, ?_, hb, fun j hj => ⟨hcell j hj, ?_⟩, fun j c hj => ⟨?_, ?_⟩⟩
  · exact grownCap_ge _ _ _ _
  · simp only [World.frozen?, Lib.bytesWorld_at_new]
    simp
    omega
  · intro _
    refine ⟨W.heap.size, 0, rfl, fun i hi => ?_⟩
    rw [List.length_set, size_toList] at hi
    rw [Nat.zero_add]
    by_cases hji : j = i
    · subst hji
      rw [World.cell?_setCell_same _ _ _ (hcell j hj)]
      simp [List.getD, size_toList, hj]
    · rw [World.cell?_setCell_other _ _ _ _ (by intro e; cases e; exact hji rfl), hcell i hi]
      simp [List.getD, hji]
  · exact hb.trans ⟨rfl, rfl, rfl, by simp [World.setCell], fun k hk => by simp [World.setCell, Array.getElem?_modify, show ¬ W.heap.size = k by omega]⟩

set_option maxHeartbeats 2000000 in
theorem stemOthers_walk (s : ByteArray) (i : Int) (ch : Int) (W : World) (hs : s.size ≤ 140737488351232) (hi : (Lit.int .i64 i).wf = true) (hch : (Lit.int .u8 ch).wf = true) (hT : Ends W) :
    Calls Tryd.prog 5 #[.string s, .int .i64 i, .int .u8 ch] W (Yes W) := by
  have HT := Lib.hid hT
  obtain ⟨c, rfl⟩ := byte_of hch
  have hc256 : c.toNat < 256 := c.toNat_lt
  by_cases hbig : s.size ≤ 4096
  · have hbig' : ¬ (s.size : Int) > 4096 := by omega
    by_cases h4 : s.size < 4
    · have h4' : (s.size : Int) < 4 := by omega
      have F1 := stem_is s W (by omega) hT
      rw [Stm.short_own _ (by rw [size_toList]; exact h4)] at F1
      have F1 := Lib.hid F1
      clear hT hi
      go_enter Tryd.func5, Tryd.ntmps5
      go_wp2_with fail
      refine F1.out.mono ?_
      rintro e w1 ⟨t, rfl, ht, hb1⟩
      obtain rfl : t = s := toList_ext ht
      have B1 := Lib.hid hb1
      have AW := Lib.hid (awake16 w1 (HT.out.below B1.out))
      clear F1 hb1 ht
      go_wp2_with fail
      refine AW.out.mono ?_
      rintro e w5 ⟨rfl, hb5⟩
      have B5 := Lib.hid (thenBelow B1.out hb5)
      clear AW hb5
      go_wp2_with fail
      go_ret
      exact ⟨ret_bool (by first | rfl | (simp; done)), B5.out⟩
    · have h4' : ¬ (s.size : Int) < 4 := by omega
      by_cases hl : 97 ≤ c.toNat ∧ c.toNat ≤ 122
      · obtain ⟨l1, l2⟩ := hl
        have AW := Lib.hid (awake16 W hT)
        clear hT hi
        go_enter Tryd.func5, Tryd.ntmps5
        go_wp2_with fail
        refine AW.out.mono ?_
        rintro e w3 ⟨rfl, hb3⟩
        have B3 := Lib.hid hb3
        clear AW hb3
        go_wp2_with fail
        go_ret
        exact ⟨ret_bool (by first | rfl | (simp; done)), B3.out⟩
      · obtain ⟨j, j1, j2, j3⟩ := uidx i s.size (by omega) (by omega)
        obtain rfl : j = (i % 18446744073709551616 % (s.size : Int)).toNat := by omega
        have hcc : c.toNat < 97 ∨ (97 ≤ c.toNat ∧ 122 < c.toNat) := by omega
        have hno := letter_no c (by omega)
        obtain ⟨cap, w1, hcv, hcap, hb1, hce, hset⟩ := bytes_of_string s W (by omega)
        obtain ⟨c1, f1⟩ := hce _ j1
        obtain ⟨L2, B2⟩ := hset _ c j1
        have L2 := Lib.hid L2; have B2 := Lib.hid B2
        have HNO := Lib.hid hno
        clear hl hi hce hset hno hb1 hT
        rcases hcc with hcc | ⟨hcc, hcd⟩
        all_goals
          go_enter Tryd.func5, Tryd.ntmps5
          go_wp2_with fail
          obtain ⟨l, hl⟩ : ∃ l, l = s.data.toList.set (i % 18446744073709551616 % (s.size : Int)).toNat c := ⟨_, rfl⟩
          have hll : l.length = s.size := by rw [hl, List.length_set, size_toList]
          have hcl : c ∈ l := by
            rw [hl]; exact List.mem_set (by rw [size_toList]; exact j1) c
          rw [← hl] at L2
          generalize w1.setCell ⟨W.heap.size, (i % 18446744073709551616 % (s.size : Int)).toNat, none⟩ (.int .u8 (c.toNat : Int)) = w2 at L2 B2 ⊢
          have T2 := HT.out.below B2.out
          have cv : ∀ (d : Nat) (os : Array Obj), (convert 25 9 (.slice (some ⟨W.heap.size, 0, none⟩) s.size cap)).run Tryd.prog (Sort.grow (redrawn w2 d) os) = .ok (.string ⟨l.toArray⟩) (Sort.grow (redrawn w2 d) os) := fun d os => by
            exact (L2.out.below (below_regrown w2 d os)).convert s.size hll.symm cap 25 5 9 Tryd.underlying25 Tryd.underlying5 Tryd.underlying9
          have cS : ∀ (d : Nat) (os : Array Obj), Calls Tryd.prog 6 #[.string ⟨l.toArray⟩] (Sort.grow (redrawn w2 d) os) fun e w'' => e = .returned (.string ⟨l.toArray⟩) ∧ ∃ p : Regrown, w'' = Sort.grow (redrawn w2 p.d) p.os :=
            fun d os => Calls.regrown_of ((stem_is ⟨l.toArray⟩ _ (by rw [show (⟨l.toArray⟩ : ByteArray).size = l.length from rfl]; omega) (T2.below (below_regrown w2 d os))).mono fun e w' ⟨t, h1, h2, h3⟩ => ⟨by rw [h1, show t = ⟨l.toArray⟩ from toList_ext (by rw [h2]; exact Stm.other_own l c hcl HNO.out)], h3⟩)
          have cA : ∀ (d : Nat) (os : Array Obj), Calls Tryd.prog 10 #[] (Sort.grow (redrawn w2 d) os) fun e w'' => e = .returned (.bool true) ∧ ∃ p : Regrown, w'' = Sort.grow (redrawn w2 p.d) p.os :=
            fun d os => Calls.regrown_of (awake16 _ (T2.below (below_regrown w2 d os)))
          have CA := Lib.hid cA; have CS := Lib.hid cS
          generalize (⟨l.toArray⟩ : ByteArray) = v at cv CS
          clear cA cS hcv c1 f1 j3 j2 hll hcl hl
          refine wp_region_quiet_below (by kernel_rfl) (by kernel_rfl) ?_
          iterate 2 (quiet_step (fail))
          quiet_step (exact CS.out _ _)
          iterate 4 (quiet_step (fail))
          quiet_step (exact CA.out _ _)
          repeat (quiet_step (fail))
          refine wpQuiet_nil ?_
          rintro _ ⟨⟨dq, osq⟩, rfl⟩
          have BQ := Lib.hid (B2.out.trans (below_regrown w2 dq osq |>.mono B2.out.size))
          generalize Sort.grow (redrawn w2 dq) osq = wq at BQ ⊢
          clear CA CS cv
          go_wp2_with fail
          go_ret
          exact ⟨ret_bool (by first | rfl | (simp; done)), BQ.out⟩
  · have hbig' : (s.size : Int) > 4096 := by omega
    have AW := Lib.hid (awake16 W hT)
    clear hT
    go_enter Tryd.func5, Tryd.ntmps5
    go_wp2_with fail
    refine AW.out.mono ?_
    rintro e w3 ⟨rfl, hb3⟩
    have B3 := Lib.hid hb3
    clear AW hb3
    go_wp2_with fail
    go_ret
    exact ⟨ret_bool (by first | rfl | (simp; done)), B3.out⟩
end Go.Proofs.YtgdjkddljnjckaaDoor
