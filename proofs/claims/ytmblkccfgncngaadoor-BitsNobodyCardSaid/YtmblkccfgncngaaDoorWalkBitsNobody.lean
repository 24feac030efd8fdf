/- The walk of BitsNobody. -/
import Derived.Test.YtmblkccfgncngaaDoorBitsCoder
namespace Go.Proofs.YtmblkccfgncngaaDoor
open Go Go.RowKit
set_option linter.unusedVariables false

theorem int_range5 {n : Int} (h : (Lit.int .i64 n).wf = true) : -9223372036854775808 ≤ n ∧ n ≤ 9223372036854775807 := by
  simp [Lit.wf, IntKind.min, IntKind.max, IntKind.bits, IntKind.signed] at h; omega
theorem zeros_enc : Cod.enc 0 ++ Cod.rising [] = [0, 0] := by decide
set_option maxHeartbeats 1000000 in
theorem bytes_void (p : Option Addr) (w : World) (h : Sized p 0 w) : Calls Tryd.prog 32 #[.pointer p] w (RetOwn w 5 [0, 0]) := by
  have Z := Lib.hid h.calls
  have NM := Lib.hid (num_any none 0 [] 0 w (Lies.nil _ _) (fun _ => rfl) (Nat.le_refl _) (by decide) (by simp))
  have H := Lib.hid h
  clear h
  go_enter Tryd.func32, Tryd.ntmps32
  go_wp2_with fail
  refine Z.out.mono ?_
  rintro e w' ⟨rfl, rfl⟩
  clear Z
  go_wp2_with fail
  refine NM.out.mono ?_
  intro e w1 hr1
  obtain ⟨q, c, rfl, hg1, hb1⟩ := hr1.given
  have G1 := Lib.hid hg1; have B1 := Lib.hid hb1
  have L := Lib.hid (list_void p w1 (H.out.below hb1))
  clear hr1 hg1 hb1 NM
  go_wp2_with fail
  refine L.out.mono ?_
  rintro e w2 ⟨v2, rfl, ho2, hb2⟩
  obtain ⟨_, q2, d, rfl, hd, hl2, _⟩ := own_liesI (l := []) ho2
  have R := Lib.hid (rising_any q q2 c d ([] ++ Cod.enc (0 : Int).toNat) [] w2 (G1.out.below hb2) hl2 (fun i hi => by simp at hi) (by decide))
  have B2 := Lib.hid (thenBelow B1.out hb2)
  clear ho2 hb2 hl2 L
  go_wp2_with fail
  refine R.out.mono ?_
  intro e w3 hr3
  have R3 := Lib.hid (hr3.after B2.out)
  obtain ⟨v3, rfl, ho3, hb3⟩ := hr3
  clear ho3 hb3
  go_wp2
  go_ret
  have := R3.out
  rw [show ([] ++ Cod.enc (0 : Int).toNat ++ Cod.rising []) = [0, 0] from zeros_enc] at this
  exact this
/-- the two sets that the law asks -/
def TwoSets (w : World) (A : Nat) : Prop := ∀ k, k < 2 → ∃ p, w.cell? ⟨A, k, none⟩ = some (.pointer p) ∧ NoSet w p
theorem TwoSets.below {w w' : World} {A : Nat} (h : TwoSets w A) (hb : Below w.heap.size w w') : TwoSets w' A := fun k hk => by
  obtain ⟨p, h1, h2⟩ := h k hk
  exact ⟨p, (hb.cell (p := ⟨A, k, none⟩) (World.block_lt_of_cell? w _ h1)).trans h1, h2.below hb⟩

set_option maxHeartbeats 8000000 in
set_option maxRecDepth 100000 in
theorem bitsNobody_walk (i : Int) (W : World) (hi : (Lit.int .i64 i).wf = true) (hT : DeB W) :
    Calls Tryd.prog 9 #[.int .i64 i] W (Yes W) := by
  obtain ⟨i1, i2⟩ := int_range5 hi
  have HT := Lib.hid hT
  clear hi hT
  go_enter Tryd.func9, Tryd.ntmps9
  go_wp2_with fail
  have hbel : Below W.heap.size W ((W.alloc (.cells #[.int .i64 0, .slice none 0 0] 58)).alloc (.cells #[.pointer none, .pointer (some ⟨W.heap.size, 0, none⟩)] 23)) := ((Below.refl _ _).alloc (Nat.le_refl _) _).alloc (by simp) _
  have htwo : TwoSets ((W.alloc (.cells #[.int .i64 0, .slice none 0 0] 58)).alloc (.cells #[.pointer none, .pointer (some ⟨W.heap.size, 0, none⟩)] 23)) (W.heap.size + 1) := by
    intro k hk
    rcases (show k = 0 ∨ k = 1 by omega) with rfl | rfl
    · exact ⟨none, by rw [World.cell?_alloc_at _ _ _ _ (by simp)]; rfl, .inl rfl⟩
    · exact ⟨some ⟨W.heap.size, 0, none⟩, by rw [World.cell?_alloc_at _ _ _ _ (by simp)]; rfl, .inr ⟨_, rfl, by rw [Below.heap_alloc _ _ _ (by simp)]; exact heap_alloc_new W _⟩⟩
  generalize ((W.alloc (.cells #[.int .i64 0, .slice none 0 0] 58)).alloc (.cells #[.pointer none, .pointer (some ⟨W.heap.size, 0, none⟩)] 23)) = w2 at *
  have HB := Lib.hid hbel; have TW := Lib.hid htwo
  clear hbel htwo
  go_loopw [9] (fun j wr => ∃ k : Nat, k ≤ 2 ∧ j = .int .i64 k ∧ Below w2.heap.size w2 wr) (fun j _ => 2 - (intOf j).toNat)
  case atStart => exact ⟨0, by omega, rfl, Below.refl _ _⟩
  case round =>
    obtain ⟨k, hk, rfl, hb⟩ := hrel
    have BB := Lib.hid hb
    clear hb
    by_cases hlt : k < 2
    · obtain ⟨p, hc, hv⟩ := (TW.out.below BB.out) k hlt
      have V := Lib.hid hv
      have hlt' : (k : Int) < 2 := by omega
      clear hv
      have Z := Lib.hid V.out.sized.calls
      have CT := Lib.hid (count_void p wr V.out.sized)
      have RK := Lib.hid (rank_none p i wr V.out.sized i1 i2)
      have LI := Lib.hid (list_void p wr V.out.sized)
      go_wp2_with fail
      refine Z.out.mono ?_
      rintro e w' ⟨rfl, rfl⟩
      clear Z
      go_wp2_with fail
      refine CT.out.mono ?_
      rintro e w' ⟨rfl, rfl⟩
      clear CT
      go_wp2_with fail
      refine RK.out.mono ?_
      rintro e w' ⟨rfl, rfl⟩
      clear RK
      go_wp2_with fail
      refine LI.out.mono ?_
      rintro e w3 ⟨v3, rfl, ho3, hb3⟩
      obtain ⟨_, q3, c3, rfl, _, _, _⟩ := own_liesI (l := []) ho3
      have B3 := Lib.hid (BB.out.trans (hb3.mono BB.out.size)); have V3 := Lib.hid (V.out.below hb3)
      have HS := Lib.hid (has_out p 0 i w3 V3.out.sized (by omega))
      have PU := Lib.hid (put_out p 0 i w3 V3.out.sized (by omega))
      have CU := Lib.hid (cut_out p 0 i w3 V3.out.sized (by omega))
      have NX := Lib.hid (next_out p 0 i w3 V3.out.sized (by omega) (by omega))
      have CL := Lib.hid (clone_void p w3 V3.out)
      clear LI ho3 hb3 V hc
      go_wp2_with fail
      refine HS.out.mono ?_
      rintro e w' ⟨rfl, rfl⟩
      clear HS
      go_wp2_with fail
      refine PU.out.mono ?_
      rintro e w' ⟨rfl, rfl⟩
      clear PU
      go_wp2_with fail
      refine CU.out.mono ?_
      rintro e w' ⟨rfl, rfl⟩
      clear CU
      go_wp2_with fail
      refine NX.out.mono ?_
      rintro e w' ⟨rfl, rfl⟩
      clear NX
      go_wp2_with fail
      refine CL.out.mono ?_
      rintro e w4 ⟨s, Gs, rfl, _, _, hs4, hb4⟩
      have B4 := Lib.hid (B3.out.trans (hb4.mono B3.out.size)); have V4 := Lib.hid (V3.out.below hb4)
      have Z4 := Lib.hid hs4.sized.calls
      have N4 := Lib.hid (newSet 5 5 w4 (by omega) (by omega) (by omega))
      clear CL hs4 hb4 V3 B3
      go_wp2_with fail
      refine Z4.out.mono ?_
      rintro e w' ⟨rfl, rfl⟩
      clear Z4
      go_wp2_with fail
      refine N4.out.mono ?_
      rintro e w5 ⟨b, Gb, rfl, _, _, hs5, hb5⟩
      have B5 := Lib.hid (B4.out.trans (hb5.mono B4.out.size)); have V5 := Lib.hid (V4.out.below hb5)
      have AN := Lib.hid (and_void p b Gb 5 _ w5 V5.out.sized hs5)
      clear N4 hs5 hb5 V4 B4
      go_wp2_with fail
      refine AN.out.mono ?_
      rintro e w6 ⟨s6, G6, rfl, _, _, hs6, hb6⟩
      have B6 := Lib.hid (B5.out.trans (hb6.mono B5.out.size)); have V6 := Lib.hid (V5.out.below hb6)
      have Z6 := Lib.hid hs6.sized.calls
      have BY := Lib.hid (bytes_void p w6 V6.out.sized)
      clear AN hs6 hb6 V5 B5
      go_wp2_with fail
      refine Z6.out.mono ?_
      rintro e w' ⟨rfl, rfl⟩
      clear Z6
      go_wp2_with fail
      refine BY.out.mono ?_
      intro e w7 hr7
      obtain ⟨q7, c7, rfl, hg7, hb7⟩ := hr7.given
      have B7 := Lib.hid (B6.out.trans (hb7.mono B6.out.size)); have G7 := Lib.hid hg7
      clear BY hr7 hg7 hb7 B6 V6
      go_wp2_with fail
      refine (equal_any _ _ _ _ _ _ [0, 0] [0, 0] _ (G7.out.lies.alloc _) (lies_lit _ _ _ [0, 0] _ rfl) rfl rfl).mono ?_
      rintro e w' ⟨rfl, rfl⟩
      have B8 := Lib.hid (B7.out.alloc B7.out.size (.cells #[.int .u8 0, .int .u8 0] 5))
      clear G7 B7
      go_wp2
      go_roundw
      case rel => exact ⟨k + 1, by omega, by go_num, B8.out⟩
      case measure => simp [intOf]; omega
    · obtain rfl : k = 2 := by omega
      have AW := Lib.hid (awake5 wr (HT.out.below (HB.out.trans (BB.out.mono HB.out.size))))
      have B9 := Lib.hid (HB.out.trans (BB.out.mono HB.out.size))
      go_wp2_with fail
      refine AW.out.mono ?_
      rintro e w9 ⟨rfl, hb9⟩
      have B10 := Lib.hid (thenBelow B9.out hb9)
      go_wp2
      go_ret
      exact ⟨rfl, B10.out⟩
end Go.Proofs.YtmblkccfgncngaaDoor
