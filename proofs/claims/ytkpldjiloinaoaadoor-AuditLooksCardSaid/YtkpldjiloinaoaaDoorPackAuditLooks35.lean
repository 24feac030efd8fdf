/- The statement AuditLooks, proved for every input that its row reads: part 35 of 54. -/
import Derived.Test.YtkpldjiloinaoaaDoorPackAuditLooks33
import Derived.Test.YtkpldjiloinaoaaDoorPackAuditLooks13
import Derived.Test.YtkpldjiloinaoaaDoorPackAuditLooks34
import Derived.Test.YtkpldjiloinaoaaDoorPackAuditLooks17
/- audit.Text of the example's trouble. -/
namespace Go.Proofs.YtkpldjiloinaoaaDoor
open Go Go.RowKit
set_option linter.unusedVariables false
set_option maxRecDepth 1000000

/-- the word of a trouble of kind 3 lies in its table -/
def Words (w : World) : Prop := w.cell? ⟨0, 3, none⟩ = some (.string ⟨#[117, 110, 107, 110, 111, 119, 110]⟩)
theorem Words.later {w w' : World} (h : Words w) (hb : Below w.heap.size w w') : Words w' := (hb.cell (p := ⟨0, 3, none⟩) (World.block_lt_of_cell? w _ h)).trans h
def OwnB (w : World) (B : Nat) (v : Value) (l : List UInt8) : Prop := w.ownsRow B 5 1 v l.length (bys l)
def AppR (B : Nat) (w : World) (l : List UInt8) (e : Ending) (w' : World) : Prop := ∃ v, e = .returned v ∧ OwnB w' B v l ∧ Below B w w'
theorem word_is (w : World) (h : Words w) : Calls Tryd.prog 21 #[.int .i64 3] w fun e w' => e = .returned (.string ⟨#[117, 110, 107, 110, 111, 119, 110]⟩) ∧ w = w' := by
  have hc : w.cell? ⟨0, 3, none⟩ = some (.string ⟨#[117, 110, 107, 110, 111, 119, 110]⟩) := h
  go_enter Tryd.func21, Tryd.ntmps21
  go_wp2
  go_ret
  exact ⟨rfl, rfl⟩
def dig (x : Nat) : UInt8 := if x = 0 then 48 else 49
theorem small_is (x : Nat) (hx : x = 0 ∨ x = 1) (w : World) : Calls Tryd.prog 62 #[.int .i64 x] w fun e w' => e = .returned (.string ⟨#[dig x]⟩) ∧ w = w' := by
  rcases hx with rfl | rfl
  · go_enter Tryd.func62, Tryd.ntmps62
    go_wp2
    go_ret
    exact ⟨by kernel_rfl, rfl⟩
  · go_enter Tryd.func62, Tryd.ntmps62
    go_wp2
    go_ret
    exact ⟨by kernel_rfl, rfl⟩
set_option maxHeartbeats 2000000 in
theorem appUint_is (x : Nat) (hx : x = 0 ∨ x = 1) (B : Nat) (v : Value) (l : List UInt8) (w : World) (ho : OwnB w B v l) (hl : l.length ≤ 1000) (hB : B ≤ w.heap.size) : Calls Tryd.prog 56 #[v, .int .u64 x, .int .i64 10] w (AppR B w (l ++ [dig x])) := by
  have OW : Hid (w.ownsRow B 5 1 v l.length (bys l)) := Lib.hid ho
  have SM := Lib.hid (small_is x hx w)
  have hx1 : (x : Int) < 100 := by omega
  have hx2 : ((x : Int) % 18446744073709551616) = x := by omega
  have hx3 : x ≤ 1 := by omega
  clear hx ho
  go_enter Tryd.func56, Tryd.ntmps56
  go_wp2_with fail
  refine SM.out.mono ?_
  rintro e w' ⟨rfl, rfl⟩
  dsimp only
  go_wp2_with (at_builtin; refine wpList_text isU8 Tryd.underlying9 _ rfl _ _ rfl B l.length l _ rfl OW.out _ rfl (by show l.length + 1 ≤ _; omega) hB ?_)
  intro v' w' o1 b1
  have O1 := Lib.hid o1; have B1 := Lib.hid b1
  clear o1 b1
  go_wp2
  go_ret
  exact ⟨_, rfl, by have := O1.out; unfold OwnB; rw [List.length_append]; exact this, B1.out⟩
set_option maxHeartbeats 2000000 in
theorem appInt_is (x : Nat) (hx : x = 0 ∨ x = 1) (B : Nat) (v : Value) (l : List UInt8) (w : World) (ho : OwnB w B v l) (hl : l.length ≤ 1000) (hB : B ≤ w.heap.size) : Calls Tryd.prog 38 #[v, .int .i64 x, .int .i64 10] w (AppR B w (l ++ [dig x])) := by
  have AU := Lib.hid (appUint_is x hx B v l w ho hl hB)
  have hx0 : ¬ ((x : Int) < 0) := by omega
  have hx1 : (x : Int) ≤ 1 := by omega
  clear hx ho
  go_enter Tryd.func38, Tryd.ntmps38
  go_wp2_with fail
  refine AU.out.mono ?_
  rintro e w' ⟨v', rfl, o1, b1⟩
  have O1 := Lib.hid o1; have B1 := Lib.hid b1
  clear o1 b1 AU
  dsimp only
  go_wp2
  go_ret
  exact ⟨_, rfl, O1.out, B1.out⟩
set_option maxHeartbeats 2000000 in
theorem appendInt_is (x : Nat) (hx : x = 0 ∨ x = 1) (B : Nat) (v : Value) (l : List UInt8) (w : World) (ho : OwnB w B v l) (hl : l.length ≤ 1000) (hB : B ≤ w.heap.size) : Calls Tryd.prog 22 #[v, .int .i64 x, .int .i64 10] w (AppR B w (l ++ [dig x])) := by
  have AU := Lib.hid (appInt_is x hx B v l w ho hl hB)
  clear hx ho
  go_enter Tryd.func22, Tryd.ntmps22
  go_wp2_with fail
  refine AU.out.mono ?_
  rintro e w' ⟨v', rfl, o1, b1⟩
  have O1 := Lib.hid o1; have B1 := Lib.hid b1
  clear o1 b1 AU
  dsimp only
  go_wp2
  go_ret
  exact ⟨_, rfl, O1.out, B1.out⟩
def exL : List UInt8 := [117, 110, 107, 110, 111, 119, 110, 32, 48, 46, 49, 10]
set_option maxHeartbeats 4000000 in
theorem text_is (v : Value) (B0 : Nat) (w : World) (hv : w.ownsRow B0 39 3 v 1 [.int .i64 3, .int .i64 0, .int .i64 1]) (hW : Words w) : Calls Tryd.prog 11 #[v] w fun e w' => e = .returned (.string ⟨exL.toArray⟩) ∧ Below w.heap.size w w' := by
  obtain ⟨d, c, rfl, t0, t1, t2⟩ : ∃ d c, v = .slice (some ⟨d, 0, none⟩) 1 c ∧ w.cell? ⟨d, 0, none⟩ = some (.int .i64 3) ∧ w.cell? ⟨d, 1, none⟩ = some (.int .i64 0) ∧ w.cell? ⟨d, 2, none⟩ = some (.int .i64 1) := by
    have hv' := hv
    rcases hv.2 with ⟨_, h0⟩ | ⟨g, cap, cur, rfl, _⟩
    · cases h0
    · exact ⟨g, cap, rfl, by have := hv'.cellAt 0 (by omega); rw [this]; rfl, by have := hv'.cellAt 1 (by omega); rw [this]; rfl, by have := hv'.cellAt 2 (by omega); rw [this]; rfl⟩
  have HW := Lib.hid hW; have TC := Lib.hid (And.intro t0 (And.intro t1 t2))
  clear hv hW t0 t1 t2
  go_enter Tryd.func11, Tryd.ntmps11
  go_wp2
  go_loopw [3, 8] (fun v i wr => (v = .slice none 0 0 ∧ i = .int .i64 0 ∧ wr = w) ∨ (i = .int .i64 1 ∧ OwnB wr w.heap.size v exL ∧ Below w.heap.size w wr)) (fun _ i _ => 1 - (RowKit.intOf i).toNat)
  case atStart => exact .inl ⟨rfl, rfl, rfl⟩
  case round =>
    rcases hrel with ⟨rfl, rfl, rfl⟩ | ⟨rfl, ow, hb⟩
    · obtain ⟨t0, t1, t2⟩ := TC.out
      have ba := below_alloc wr (.cells #[.int .i64 3, .int .i64 0, .int .i64 1] 39)
      have na := heap_alloc_new wr (.cells #[.int .i64 3, .int .i64 0, .int .i64 1] 39)
      have hs : (wr.alloc (.cells #[.int .i64 3, .int .i64 0, .int .i64 1] 39)).heap.size = wr.heap.size + 1 := by simp
      have W6 := Lib.hid (HW.out.later ba); have B6 := Lib.hid ba; have N6 := Lib.hid na
      clear ba na TC
      go_upto_region 5 with fail
      clear t0 t1 t2 HW
      generalize wr.alloc (.cells #[.int .i64 3, .int .i64 0, .int .i64 1] 39) = w6 at W6 B6 N6 hs ⊢
      obtain ⟨G, hG⟩ : ∃ G, wr.heap.size = G := ⟨_, rfl⟩
      rw [hG] at N6 B6 hs ⊢
      have HS := Lib.hid hs
      clear hs
      have CE : Hid (∀ V : World, Below w6.heap.size w6 V → V.cell? ⟨G, 0, none⟩ = some (.int .i64 3) ∧ V.cell? ⟨G, 1, none⟩ = some (.int .i64 0) ∧ V.cell? ⟨G, 2, none⟩ = some (.int .i64 1)) := Lib.hid fun V hV => by
        have h := (hV.block G (by have := HS.out; omega)).trans N6.out
        exact ⟨cell_of_row _ G 0 _ _ _ h, cell_of_row _ G 1 _ _ _ h, cell_of_row _ G 2 _ _ _ h⟩
      have O6 : Hid (w6.ownsRow w6.heap.size 5 1 (.slice none 0 0) 0 (bys [])) := Lib.hid ⟨rfl, .inl ⟨rfl, rfl⟩⟩
      have k0 := (CE.out w6 (Below.refl _ _)).1
      go_wp2_with fail
      refine (word_is w6 W6.out).mono ?_
      rintro e w7 ⟨rfl, rfl⟩
      dsimp only
      clear k0
      go_wp2_with (at_builtin; refine wpList_text isU8 Tryd.underlying9 _ rfl _ _ rfl w6.heap.size 0 [] _ rfl O6.out _ rfl (by decide) (Nat.le_refl _) ?_)
      intro v7 w7 o7 b7
      have O7 : Hid (w7.ownsRow w6.heap.size 5 1 v7 7 (bys [117, 110, 107, 110, 111, 119, 110])) := Lib.hid o7
      have B7 := Lib.hid b7; have h7 := b7.size
      clear o7 b7 O6
      go_wp2_with (at_builtin; refine wpList_byte isU8 _ rfl _ _ rfl w6.heap.size 7 [117, 110, 107, 110, 111, 119, 110] _ rfl O7.out 32 32 rfl rfl (by omega) h7 ?_)
      intro v8 w8 o8 b8
      have O8 : Hid (OwnB w8 w6.heap.size v8 [117, 110, 107, 110, 111, 119, 110, 32]) := Lib.hid o8
      have B8 := Lib.hid (B7.out.trans b8)
      have k1 := (CE.out w8 B8.out).2.1
      clear o8 b8 O7 B7 h7
      go_wp2_with fail
      refine (appendInt_is 0 (.inl rfl) w6.heap.size v8 _ w8 O8.out (by decide) B8.out.size).mono ?_
      rintro e w9 ⟨v9, rfl, o9, b9⟩
      have O9 : Hid (w9.ownsRow w6.heap.size 5 1 v9 9 (bys [117, 110, 107, 110, 111, 119, 110, 32, 48])) := Lib.hid o9
      have B9 := Lib.hid (B8.out.trans b9)
      have h9 := B9.out.size
      clear o9 b9 O8 B8 k1
      dsimp only
      go_wp2_with (at_builtin; refine wpList_byte isU8 _ rfl _ _ rfl w6.heap.size 9 [117, 110, 107, 110, 111, 119, 110, 32, 48] _ rfl O9.out 46 46 rfl rfl (by omega) h9 ?_)
      intro v10 w10 o10 b10
      have O10 : Hid (OwnB w10 w6.heap.size v10 [117, 110, 107, 110, 111, 119, 110, 32, 48, 46]) := Lib.hid o10
      have B10 := Lib.hid (B9.out.trans b10)
      have k2 := (CE.out w10 B10.out).2.2
      clear o10 b10 O9 B9 h9
      go_wp2_with fail
      refine (appendInt_is 1 (.inr rfl) w6.heap.size v10 _ w10 O10.out (by decide) B10.out.size).mono ?_
      rintro e w11 ⟨v11, rfl, o11, b11⟩
      have O11 : Hid (w11.ownsRow w6.heap.size 5 1 v11 11 (bys [117, 110, 107, 110, 111, 119, 110, 32, 48, 46, 49])) := Lib.hid o11
      have B11 := Lib.hid (B10.out.trans b11)
      have h11 := B11.out.size
      clear o11 b11 O10 B10 k2
      dsimp only
      go_wp2_with (at_builtin; refine wpList_byte isU8 _ rfl _ _ rfl w6.heap.size 11 [117, 110, 107, 110, 111, 119, 110, 32, 48, 46, 49] _ rfl O11.out 10 10 rfl rfl (by omega) h11 ?_)
      intro v12 w12 o12 b12
      have O12 : Hid (OwnB w12 G v12 exL) := Lib.hid (own_base (show w12.ownsRow w6.heap.size 5 1 v12 12 (bys exL) from o12) (by have := HS.out; omega))
      have B12 : Hid (Below G wr w12) := Lib.hid (B6.out.trans ((B11.out.trans b12).mono (by have := HS.out; omega)))
      clear o12 b12 O11 B11 h11
      go_wp2
      go_roundw
      case rel => exact .inr ⟨rfl, by rw [hG]; exact O12.out, by rw [hG]; exact B12.out⟩
      case measure => simp [intOf]
    · have OW := Lib.hid ow; have BR := Lib.hid hb
      clear ow hb
      obtain ⟨-, p, cap, hv, -, -, ls, -⟩ := own_lies (show wr.ownsRow w.heap.size 5 1 u3 12 (bys exL) from OW.out)
      have hv' : u3 = .slice p 12 cap := hv
      subst hv'
      have hcv := ls.convert (P := Tryd.prog) 12 rfl cap 56 5 9 Tryd.underlying56 Tryd.underlying5 Tryd.underlying9
      clear hv ls OW
      go_wp2
      go_ret
      exact ⟨rfl, BR.out⟩
end Go.Proofs.YtkpldjiloinaoaaDoor
/- The example that each law of layer 36 ends with. -/
namespace Go.Proofs.YtkpldjiloinaoaaDoor
open Go Go.RowKit
set_option linter.unusedVariables false
set_option maxRecDepth 1000000

def YesA (w : World) (e : Ending) (w' : World) : Prop := e = .returned (.bool true) ∧ Below w.heap.size w w'
set_option maxHeartbeats 2000000 in
theorem fine0_is (w : World) (hT : Shapes w) : Calls Tryd.prog 10 #[.agg (scs (fun _ => 0) (.slice none 0 0)), .agg (pcs (.slice none 0 0) (fun _ => 0))] w (YesA w) := by
  have HT := Lib.hid hT
  clear hT
  go_enter Tryd.func10, Tryd.ntmps10
  go_wp2_with (refine wpList_gbox rfl _ rfl (scs (fun _ => 0) (.slice none 0 0)) rfl ?_)
  intro g2 w1 l2 h2 hb1
  have S1 : Hid (Sx w1 g2 (fun _ => 0) (.slice none 0 0)) := Lib.hid h2
  have B1 := Lib.hid hb1
  clear h2 hb1
  go_wp2_with (refine wpList_gbox rfl _ rfl (pcs (.slice none 0 0) (fun _ => 0)) rfl ?_)
  intro g3 w2 l3 h3 hb2
  have P2 : Hid (Px w2 g3 (.slice none 0 0) (fun _ => 0)) := Lib.hid h3
  have S2 := Lib.hid (S1.out.later hb2); have B2 := Lib.hid (thenBelow B1.out hb2)
  have SW := Lib.hid S2.out.whole; have PW := Lib.hid P2.out.whole
  clear h3 hb2 S1 B1
  go_wp2_with (first | refine wpList_gload (t := 26) rfl _ rfl g2 0 rfl _ SW.out _ Tryd.underlying26 rfl (sizeStl _ _) ?_ | refine wpList_gload (t := 29) rfl _ rfl g3 0 rfl _ PW.out _ Tryd.underlying29 rfl (sizePl _ _) ?_)
  refine (look0_is w2 (HT.out.below B2.out)).mono ?_
  rintro e w3 ⟨rfl, hb3⟩
  have B3 := Lib.hid (thenBelow B2.out hb3)
  clear hb3 S2 P2 B2 SW PW HT
  dsimp only
  go_wp2
  go_ret
  exact ⟨rfl, B3.out⟩
theorem builtPA (p : Option Addr) (n c : Nat) (w : World) : (Instr.build 29 #[(0, .slice p n c)]).run Tryd.prog w = .ok (.agg (pcs (.slice p n c) (fun _ => 0))) w := run_build w _ _ _ (by kernel_rfl)
theorem builtPA0 (w : World) : (Instr.build 29 #[]).run Tryd.prog w = .ok (.agg (pcs (.slice none 0 0) (fun _ => 0))) w := run_build w _ _ _ (by kernel_rfl)
theorem text1_is (v : Value) (B0 : Nat) (w : World) (hv : w.ownsRow B0 39 3 v 1 [.int .i64 3, .int .i64 0, .int .i64 1]) (hW : Words w) : Calls Tryd.prog 11 #[v] w fun e w' => e = .returned (.string ⟨#[117, 110, 107, 110, 111, 119, 110, 32, 48, 46, 49, 10]⟩) ∧ Below w.heap.size w w' := text_is v B0 w hv hW
set_option maxHeartbeats 2000000 in
theorem awake36 (w : World) (hT : Shapes w) (hW : Words w) : Calls Tryd.prog 6 #[] w (YesA w) := by
  have HT := Lib.hid hT; have HW := Lib.hid hW
  clear hT hW
  have BA := Lib.hid builtAu; have BP := Lib.hid builtPA; have BP0 := Lib.hid builtPA0; have BS := Lib.hid builtSt0
  go_enter Tryd.func6, Tryd.ntmps6
  go_wp2_with (first | refine wpList_pbuild (t := 48) (by rfl) _ rfl #[.int .i64 0, .int .i64 1, .int .i64 1, .int .i64 1, .string ⟨#[97]⟩, .int .i64 1, .string ⟨#[120]⟩, .slice none 0 0] (by simp only [List.map_toArray, List.map_cons, List.map_nil]; exact BA.out _) ?_ | refine wpList_galloc (t := 48) _ zeroEvA rfl rfl ?_)
  intro g1 w1 l1 h1 hb1
  have B1 := Lib.hid hb1; have E1 := Lib.hid h1
  clear h1 hb1
  go_wp2_with (refine wpList_gstore (t := 48) rfl _ _ rfl g1 rfl auP.cells.toArray rfl _ _ E1.out (by rw [List.size_toArray]; exact sizeEvA auP) rfl (fun v hv => auP.cells_one v (by simpa using hv)) ?_)
  intro w2 h2 gr2
  have B2 := Lib.hid (B1.out.trans (grown_below gr2 B1.out.size l1))
  have R2 : Hid (w2.rangeAt g1 0 [.int .i64 0, .int .i64 1, .int .i64 1, .int .i64 1, .string ⟨#[97]⟩, .int .i64 1, .string ⟨#[120]⟩, .slice none 0 0]) := Lib.hid (range_of_block h2)
  clear h2 gr2 B1 E1
  have ba := below_alloc w2 (.cells #[.int .i64 0, .int .i64 1, .int .i64 1, .int .i64 1, .string ⟨#[97]⟩, .int .i64 1, .string ⟨#[120]⟩, .slice none 0 0] 48)
  have na := heap_alloc_new w2 (.cells #[.int .i64 0, .int .i64 1, .int .i64 1, .int .i64 1, .string ⟨#[97]⟩, .int .i64 1, .string ⟨#[120]⟩, .slice none 0 0] 48)
  have LK := Lib.hid (look1_is w2.heap.size 1 (w2.alloc (.cells #[.int .i64 0, .int .i64 1, .int .i64 1, .int .i64 1, .string ⟨#[97]⟩, .int .i64 1, .string ⟨#[120]⟩, .slice none 0 0] 48)) (range_of_block na) (HT.out.below (thenBelow B2.out ba)))
  have B3 := Lib.hid (thenBelow B2.out ba)
  clear ba na
  go_wp2_with (first | refine wpList_pbuild (t := 26) (by rfl) _ rfl (scs (fun _ => 0) (.slice none 0 0)) (by simp only [List.map_toArray, List.map_nil]; exact BS.out _) ?_ | refine wpList_gload (t := 48) rfl _ rfl g1 0 rfl _ R2.out _ Tryd.underlying48 rfl (by kernel_rfl) ?_ | refine wpList_gloadG (t := 48) (by rfl) _ rfl g1 0 rfl _ R2.out _ Tryd.underlying48 rfl (by kernel_rfl) ?_ | refine wpList_pbuild (t := 29) (by rfl) _ rfl (pcs (.slice (some ⟨w2.heap.size, 0, none⟩) 1 1) (fun _ => 0)) (by simp only [List.map_toArray, List.map_cons, List.map_nil]; exact BP.out _ _ _ _) ?_)
  refine LK.out.mono ?_
  rintro e w4 ⟨v4, rfl, o4, hb4⟩
  have B4 := Lib.hid (thenBelow B3.out hb4)
  have TX := Lib.hid (text1_is v4 _ w4 o4 (HW.out.later B4.out))
  clear o4 hb4 LK B3 R2
  dsimp only
  go_wp2_with fail
  refine TX.out.mono ?_
  rintro e w5 ⟨rfl, hb5⟩
  have B5 := Lib.hid (thenBelow B4.out hb5)
  have FN := Lib.hid (fine0_is w5 (HT.out.below B5.out))
  clear hb5 TX B4
  dsimp only
  go_wp2_with (first | refine wpList_pbuild (t := 26) (by rfl) _ rfl (scs (fun _ => 0) (.slice none 0 0)) (by simp only [List.map_toArray, List.map_nil]; exact BS.out _) ?_ | refine wpList_pbuild (t := 29) (by rfl) _ rfl (pcs (.slice none 0 0) (fun _ => 0)) (by simp only [List.map_toArray, List.map_nil]; exact BP0.out _) ?_)
  refine FN.out.mono ?_
  rintro e w6 ⟨rfl, hb6⟩
  have B6 := Lib.hid (thenBelow B5.out hb6)
  clear hb6 FN B5
  dsimp only
  go_wp2
  go_ret
  exact ⟨rfl, B6.out⟩
end Go.Proofs.YtkpldjiloinaoaaDoor
/- slices.ContainsFunc of dots, by a closure bound to the front. -/
namespace Go.Proofs.YtkpldjiloinaoaaDoor
open Go Go.RowKit
set_option linter.unusedVariables false
set_option maxRecDepth 1000000

/-- a bound closure that tells of dots, in worlds that meet S -/
structure TellD (F : FuncId) (bd : Array Value) (goes : Dt → Bool) (B : Nat) (S : World → Prop) : Prop where
  enter : ∀ args w, (callFunc F args).run Tryd.prog w = .ok (.enter F args) w
  tell : ∀ (d : Dt) (w : World), S w → Calls Tryd.prog F (bd ++ #[.agg (dcs d.1 d.2)]) w (RetBool w (goes d))
  keep : ∀ w w', S w → Below B w w' → S w'
def IdxD (w : World) (goes : Dt → Bool) (L : List Dt) (e : Ending) (w' : World) : Prop := ∃ i : Int, e = .returned (.int .i64 i) ∧ (i ≥ 0 ↔ L.any goes = true) ∧ Below w.heap.size w w'
set_option maxHeartbeats 2000000 in
theorem idxD_is (F : FuncId) (bd0 : Value) (goes : Dt → Bool) (B : Nat) (S : World → Prop) (TW : TellD F #[bd0] goes B S) (p : Option Addr) (c : Nat) (L : List Dt) (w : World) (hS : S w) (hB : B ≤ w.heap.size) (h : DRow w p L) (hn : L.length ≤ 10000) :
    Calls Tryd.prog 51 #[.slice p L.length c, .func (.func F) #[bd0] #[]] w (IdxD w goes L) := by
  have EV := Lib.hid h; have HS := Lib.hid hS; have HT := Lib.hid TW; have HB := Lib.hid hB
  clear h hS TW hB
  go_enter Tryd.func51, Tryd.ntmps51
  go_wp2
  go_loopw [8] (fun i wr => ∃ j : Nat, j ≤ L.length ∧ i = .int .i64 j ∧ (L.take j).any goes = false ∧ Below w.heap.size w wr) (fun i _ => L.length - (intOf i).toNat)
  case atStart => exact ⟨0, Nat.zero_le _, rfl, rfl, Below.refl _ _⟩
  case round =>
    obtain ⟨j, hj, rfl, hno, hb⟩ := hrel
    have BB := Lib.hid hb; have NO := Lib.hid hno
    clear hno
    by_cases hjl : j < L.length
    · have hjl' : (j : Int) < L.length := by omega
      obtain ⟨b, o, rfl, hr⟩ := drow_at (EV.out.below hb) hjl
      have TS : Hid (L.take (j + 1) = L.take j ++ [L[j]]) := Lib.hid (List.take_succ_eq_append_getElem hjl)
      have MEM := Lib.hid (List.getElem_mem hjl)
      have TL := Lib.hid (HT.out.tell L[j] wr (HT.out.keep _ _ HS.out (hb.mono HB.out)))
      obtain ⟨y, hy⟩ : ∃ y, L[j] = y := ⟨_, rfl⟩
      rw [hy] at hr TS TL MEM
      obtain ⟨gy, hgy⟩ : ∃ gy, goes y = gy := ⟨_, rfl⟩
      rw [hgy] at TL
      have HGY := Lib.hid hgy
      obtain ⟨r, n⟩ := y
      have HR : Hid (wr.rangeAt b (o + j * 2) [.int .i64 r, .int .i64 n]) := Lib.hid hr
      clear hb hr hy hgy
      have TL : Hid (Calls Tryd.prog F #[bd0, .agg #[.int .i64 r, .int .i64 n]] wr (RetBool wr gy)) := TL
      have he := HT.out.enter
      go_wp2_with (refine wpList_gload (t := 37) rfl _ rfl b (o + j * 2) rfl _ HR.out _ Tryd.underlying37 rfl (by kernel_rfl) ?_)
      refine TL.out.mono ?_
      rintro e w2 ⟨rfl, hb2⟩
      have B2 := Lib.hid (thenBelow BB.out hb2)
      clear hb2 TL HR he
      dsimp only
      cases gy with
      | true =>
        have AN : Hid (L.any goes = true) := Lib.hid (List.any_eq_true.2 ⟨_, MEM.out, HGY.out⟩)
        go_wp2
        go_ret
        exact ⟨_, rfl, by rw [AN.out]; simp, B2.out⟩
      | false =>
        go_wp2
        go_roundw
        case rel => exact ⟨j + 1, by omega, by go_num, by rw [TS.out, List.any_append, NO.out]; simp [HGY.out], B2.out⟩
        case measure => simp [intOf]; omega
    · obtain rfl : j = L.length := by omega
      have hjl' : ¬ ((L.length : Nat) : Int) < L.length := by omega
      rw [List.take_length] at NO
      go_wp2
      go_ret
      exact ⟨_, rfl, by rw [NO.out]; simp, BB.out⟩
set_option maxHeartbeats 2000000 in
theorem hasD_is (F : FuncId) (bd0 : Value) (goes : Dt → Bool) (B : Nat) (S : World → Prop) (TW : TellD F #[bd0] goes B S) (p : Option Addr) (c : Nat) (L : List Dt) (w : World) (hS : S w) (hB : B ≤ w.heap.size) (h : DRow w p L) (hn : L.length ≤ 10000) :
    Calls Tryd.prog 32 #[.slice p L.length c, .func (.func F) #[bd0] #[]] w (RetBool w (L.any goes)) := by
  have NI := Lib.hid (idxD_is F bd0 goes B S TW p c L w hS hB h hn)
  clear TW hS hB h
  obtain ⟨g, hg⟩ : ∃ g, L.any goes = g := ⟨_, rfl⟩
  have HG := Lib.hid hg
  rw [hg]
  clear hg
  go_enter Tryd.func32, Tryd.ntmps32
  go_wp2_with fail
  refine NI.out.mono ?_
  rintro e w2 ⟨i, rfl, hi, hb⟩
  have HB := Lib.hid hb
  have HI : Hid (decide (i ≥ 0) = g) := Lib.hid (by rw [← HG.out, Bool.eq_iff_iff, decide_eq_true_iff]; exact hi)
  clear hb NI hi
  dsimp only
  go_wp2
  go_ret
  exact ⟨by rw [← HI.out]; rfl, HB.out⟩
end Go.Proofs.YtkpldjiloinaoaaDoor
