/- Three dots put in order, as the example asks: SortFunc, Compact, Clone. -/
import Derived.Test.YtkkepfbckpmbhaaDotGood
import Derived.BigRegion
namespace Go.Proofs.Ytkkepfbckpmbhaa
open Go Go.RowKit
set_option linter.unusedVariables false

/-- three dots of one replica at b -/
structure Six (w : World) (b : Nat) (x y z : Int) : Prop where
  c0 : w.cell? ⟨b, 0, none⟩ = some (.int .i64 0)
  c1 : w.cell? ⟨b, 1, none⟩ = some (.int .i64 x)
  c2 : w.cell? ⟨b, 2, none⟩ = some (.int .i64 0)
  c3 : w.cell? ⟨b, 3, none⟩ = some (.int .i64 y)
  c4 : w.cell? ⟨b, 4, none⟩ = some (.int .i64 0)
  c5 : w.cell? ⟨b, 5, none⟩ = some (.int .i64 z)
  free : ∀ i, w.frozen? ⟨b, i, none⟩ = false
theorem Six.later {w w' : World} {b : Nat} {x y z : Int} (h : Six w b x y z) (hb : Below w.heap.size w w') : Six w' b x y z := by
  have hlt := World.block_lt_of_cell? w _ h.c0
  exact ⟨(hb.cell (p := ⟨b, 0, none⟩) hlt).trans h.c0, (hb.cell (p := ⟨b, 1, none⟩) hlt).trans h.c1, (hb.cell (p := ⟨b, 2, none⟩) hlt).trans h.c2, (hb.cell (p := ⟨b, 3, none⟩) hlt).trans h.c3, (hb.cell (p := ⟨b, 4, none⟩) hlt).trans h.c4, (hb.cell (p := ⟨b, 5, none⟩) hlt).trans h.c5,
    fun i => (hb.frozen (p := ⟨b, i, none⟩) hlt).trans (h.free i)⟩
theorem Six.kept {w w' : World} {b : Nat} {x y z : Int} (h : Six w b x y z) {row : Option Nat} (hg : w.grownBy w' row) (hne : some b ≠ row) : Six w' b x y z := by
  have hlt := World.block_lt_of_cell? w _ h.c0
  exact ⟨hg.cell h.c0 hne, hg.cell h.c1 hne, hg.cell h.c2 hne, hg.cell h.c3 hne, hg.cell h.c4 hne, hg.cell h.c5 hne, fun i => by rw [World.frozen?_of_block (w := w) (hg.block b hlt hne)]; exact h.free i⟩
theorem Six.lt {w : World} {b : Nat} {x y z : Int} (h : Six w b x y z) : b < w.heap.size := World.block_lt_of_cell? w _ h.c0

theorem cell_set (w : World) (b i j : Nat) (v : Value) : (w.setCell ⟨b, i, none⟩ v).cell? ⟨b, j, none⟩ = if i = j then (w.cell? ⟨b, j, none⟩).map (fun _ => v) else w.cell? ⟨b, j, none⟩ := by
  by_cases h : i = j
  · subst h
    rw [if_pos rfl]
    cases hu : w.cell? ⟨b, i, none⟩ with
    | none =>
      cases hv : (w.setCell ⟨b, i, none⟩ v).cell? ⟨b, i, none⟩ with
      | none => rfl
      | some u =>
        have hlt : b < w.heap.size := by have := World.block_lt_of_cell? _ _ hv; simpa [World.setCell] using this
        exfalso
        simp only [World.cell?, World.setCell] at hu hv
        rw [Array.getElem?_modify, if_pos rfl] at hv
        cases hb : w.heap[b]? with
        | none => simp [hb] at hv
        | some o =>
          rw [hb] at hu hv
          cases o <;> simp_all
    | some u => rw [World.cell?_setCell_same _ _ _ hu]; rfl
  · rw [if_neg h, World.cell?_setCell_other _ _ _ _ (by intro e; cases e; exact h rfl)]
theorem six_swap {w : World} {b : Nat} (h : Six w b 4 3 6) :
    Six ((((w.setCell ⟨b, 2, none⟩ (.int .i64 0)).setCell ⟨b, 3, none⟩ (.int .i64 4)).setCell ⟨b, 0, none⟩ (.int .i64 0)).setCell ⟨b, 1, none⟩ (.int .i64 3)).drew b 3 4 6 ∧
    w.grownBy ((((w.setCell ⟨b, 2, none⟩ (.int .i64 0)).setCell ⟨b, 3, none⟩ (.int .i64 4)).setCell ⟨b, 0, none⟩ (.int .i64 0)).setCell ⟨b, 1, none⟩ (.int .i64 3)).drew (some b) := by
  refine ⟨⟨?_, ?_, ?_, ?_, ?_, ?_, ?_⟩, grown_drew (grown_then (grown_then (grown_then (grown_cell _ _ _ _) (grown_cell _ _ _ _)) (grown_cell _ _ _ _)) (grown_cell _ _ _ _))⟩
  · simp [cell_set, h.c0]
  · simp [cell_set, h.c1]
  · simp [cell_set, h.c2]
  · simp [cell_set, h.c3]
  · simp [cell_set, h.c4]
  · simp [cell_set, h.c5]
  · intro i; simp [World.frozen?_setCell, h.free]

set_option maxHeartbeats 4000000 in
set_option maxRecDepth 100000 in
theorem ins3 (b cap : Nat) (w : World) (h : Six w b 4 3 6) :
    Calls Try.prog 87 #[.slice (some ⟨b, 0, none⟩) 3 cap, .int .i64 0, .int .i64 3, .func (.func 11) #[] #[]] w
      (fun e w' => e = .returned (.tuple #[]) ∧ Six w' b 3 4 6 ∧ w.grownBy w' (some b)) := by
  have e1 : cmpD 0 3 0 4 = -1 := by decide
  have e2 : cmpD 0 6 0 4 = 1 := by decide
  have D1 := dotCompare_is 0 3 0 4
  have D2 := dotCompare_is 0 6 0 4
  rw [e1] at D1; rw [e2] at D2
  have D1 := Lib.hid D1; have D2 := Lib.hid D2
  have H := Lib.hid h
  clear h e1 e2
  go_enter Try.func87, Try.ntmps87
  go_wp2
  go_loopw [8] (fun i wr => (i = .int .i64 1 ∧ Six wr b 4 3 6 ∧ w.grownBy wr (some b)) ∨ ((i = .int .i64 2 ∨ i = .int .i64 3) ∧ Six wr b 3 4 6 ∧ w.grownBy wr (some b))) (fun i _ => 3 - (intOf i).toNat)
  case atStart => exact .inl ⟨rfl, H.out, ⟨rfl, rfl, rfl, Nat.le_refl _, fun _ _ _ => rfl⟩⟩
  case round =>
    obtain ⟨wo, rfl⟩ : ∃ wo : World, wo = wr := ⟨_, rfl⟩
    rcases hrel with ⟨rfl, hs, hg⟩ | ⟨rfl | rfl, hs, hg⟩
    · have S := Lib.hid hs; have G := Lib.hid hg
      clear hs hg
      go_wp2
      go_loopw [9] (fun j wr => (j = .int .i64 1 ∧ Six wr b 4 3 6 ∧ w.grownBy wr (some b)) ∨ (j = .int .i64 0 ∧ Six wr b 3 4 6 ∧ w.grownBy wr (some b))) (fun j _ => (intOf j).toNat)
      case atStart => exact .inl ⟨rfl, S.out, G.out⟩
      case round =>
        rcases hrel with ⟨rfl, hs, hg⟩ | ⟨rfl, hs, hg⟩
        · have S := Lib.hid hs; have G := Lib.hid hg
          have a0 := cell_regrown hs.c0; have a1 := cell_regrown hs.c1; have a2 := cell_regrown hs.c2; have a3 := cell_regrown hs.c3
          have cD := quiet_call (w := wr) D1.out
          have hw10 : IntKind.i64.wrap 0 = 0 := by decide
          clear hs hg
          go_wp2
          refine wp_region_quiet_below (by kernel_rfl) (by kernel_rfl) ?_
          iterate 14 (quiet_step (fail))
          quiet_step (exact cD _ _)
          repeat (quiet_step (fail))
          refine wpQuiet_nil ?_
          rintro _ ⟨⟨dq, osq⟩, rfl⟩
          have hb2 := below_regrown wr dq osq
          have S2 := S.out.later hb2; have G2 := Lib.hid (grown_then G.out (grown_of_below hb2 : wr.grownBy _ (some b)))
          generalize Sort.grow (redrawn wr dq) osq = wq at hb2 S2 G2 ⊢
          clear hb2 a0 a1 a2 a3 cD
          have b0 := S2.c0; have b1 := S2.c1; have b2 := S2.c2; have b3 := S2.c3; have bf := S2.free
          have b4 := S2.c4; have b5 := S2.c5
          go_wp2
          go_region
          have SW := six_swap S2
          have W6 := Lib.hid SW.1; have WG := Lib.hid (grown_then G2.out SW.2)
          clear SW S2
          all_goals
            go_wp2
            go_roundw
            case rel => exact .inr ⟨rfl, W6.out, WG.out⟩
            case measure => simp [intOf]
        · have S := Lib.hid hs; have G := Lib.hid hg
          clear hs hg
          go_wp2
          go_quiet (fail)
          have hb2 : Below wr.heap.size wr (wr.drewN nq) := ⟨rfl, rfl, rfl, Nat.le_refl _, fun _ _ => rfl⟩
          have S2 := Lib.hid (S.out.later hb2); have G2 := Lib.hid (grown_then G.out (grown_of_below hb2 : wr.grownBy _ (some b)))
          generalize wr.drewN nq = wq at hb2 S2 G2 ⊢
          clear hb2
          go_wp2
          go_roundw
          case rel => exact .inr ⟨.inl rfl, S2.out, G2.out⟩
          case measure => simp [intOf]
    · have S := Lib.hid hs; have G := Lib.hid hg
      clear hs hg
      go_wp2
      go_loopw [9] (fun j wr => j = .int .i64 2 ∧ Six wr b 3 4 6 ∧ w.grownBy wr (some b)) (fun j _ => 0)
      case atStart => exact ⟨rfl, S.out, G.out⟩
      case round =>
        obtain ⟨rfl, hs, hg⟩ := hrel
        have S := Lib.hid hs; have G := Lib.hid hg
        have a2 := cell_regrown hs.c2; have a3 := cell_regrown hs.c3; have a4 := cell_regrown hs.c4; have a5 := cell_regrown hs.c5
        have cD := quiet_call (w := wr) D2.out
        have hw10 : IntKind.i64.wrap 1 = 1 := by decide
        clear hs hg
        go_wp2
        refine wp_region_quiet_below (by kernel_rfl) (by kernel_rfl) ?_
        iterate 14 (quiet_step (fail))
        quiet_step (exact cD _ _)
        repeat (quiet_step (fail))
        refine wpQuiet_nil ?_
        rintro _ ⟨⟨dq, osq⟩, rfl⟩
        have hb2 := below_regrown wr dq osq
        have S2 := Lib.hid (S.out.later hb2); have G2 := Lib.hid (grown_then G.out (grown_of_below hb2 : wr.grownBy _ (some b)))
        generalize Sort.grow (redrawn wr dq) osq = wq at hb2 S2 G2 ⊢
        clear hb2 a2 a3 a4 a5 cD
        go_wp2
        go_roundw
        case rel => exact .inr ⟨.inr rfl, S2.out, G2.out⟩
        case measure => simp [intOf]
    · have S := Lib.hid hs; have G := Lib.hid hg
      clear hs hg
      go_wp2
      go_end0
      exact ⟨rfl, S.out, G.out⟩
end Go.Proofs.Ytkkepfbckpmbhaa
