/- A set that no call made. -/
import Derived.Test.YtmblkccfgncngaaDoorBitsClone
namespace Go.Proofs.YtmblkccfgncngaaDoor
open Go Go.RowKit
set_option linter.unusedVariables false

/-- a set that no call made: nil, or one of no size -/
def NoSet (w : World) (p : Option Addr) : Prop := p = none ∨ ∃ a, p = some ⟨a, 0, none⟩ ∧ w.heap[a]? = some (.cells #[.int .i64 0, .slice none 0 0] 58 (0, 0))
theorem NoSet.sized {w : World} {p : Option Addr} (h : NoSet w p) : Sized p 0 w := by
  rcases h with rfl | ⟨a, rfl, h⟩
  · exact .inl ⟨rfl, rfl⟩
  · exact .inr ⟨a, rfl, by rw [cell_of_row w a 0 _ _ _ h]; rfl⟩
theorem NoSet.below {w w' : World} {p : Option Addr} (h : NoSet w p) (hb : Below w.heap.size w w') : NoSet w' p := by
  rcases h with rfl | ⟨a, rfl, h⟩
  · exact .inl rfl
  · exact .inr ⟨a, rfl, (hb.block a (Array.getElem?_eq_some_iff.1 h).1).trans h⟩
theorem count_void (p : Option Addr) (w : World) (h : Sized p 0 w) : Calls Tryd.prog 21 #[.pointer p] w fun e w' => e = .returned (.int .i64 0) ∧ w = w' := by
  have S := Lib.hid h.calls
  have R := Lib.hid (rank_none p 0 w h (by omega) (by omega))
  clear h
  go_enter Tryd.func21, Tryd.ntmps21
  go_wp2_with fail
  refine S.out.mono ?_
  rintro e w' ⟨rfl, rfl⟩
  go_wp2_with fail
  refine R.out.mono ?_
  rintro e w' ⟨rfl, rfl⟩
  go_wp2
  go_ret
  exact ⟨rfl, rfl⟩
theorem Sized.below {w w' : World} {p : Option Addr} {n : Nat} (h : Sized p n w) (hb : Below w.heap.size w w') : Sized p n w' := by
  rcases h with h | ⟨a, rfl, h⟩
  · exact .inl h
  · exact .inr ⟨a, rfl, (hb.cell (p := ⟨a, 0, none⟩) (World.block_lt_of_cell? w _ h)).trans h⟩
set_option maxHeartbeats 1000000 in
theorem list_void (p : Option Addr) (w : World) (h : Sized p 0 w) : Calls Tryd.prog 40 #[.pointer p] w (RetInts w 3 []) := by
  have CT := Lib.hid (count_void p w h)
  have H := Lib.hid h
  clear h
  go_enter Tryd.func40, Tryd.ntmps40
  go_wp2_with fail
  refine CT.out.mono ?_
  rintro e w1 ⟨rfl, rfl⟩
  clear CT
  go_wp2_with (refine wpList_mk (z := .int .i64 0) (b := 8) ⟨Tryd.underlying53, infoI64, rfl, by decide, by decide⟩ _ rfl _ _ rfl _ _ _ 0 rfl rfl rfl (by omega) ?_)
  intro v2 w2 hown2 hb2
  have B2 := Lib.hid hb2; have O2 := Lib.hid hown2
  have NX := Lib.hid (next_out p 0 0 w2 (H.out.below hb2) (by omega) (by omega))
  clear hown2 hb2
  go_wp2_with fail
  refine NX.out.mono ?_
  rintro e w' ⟨rfl, rfl⟩
  clear NX
  go_wp2
  go_loopw [3, 4] (fun v i wr => i = .int .i64 (-1) ∧ v = v2 ∧ wr = w2) (fun _ i _ => 0)
  case atStart => exact ⟨rfl, rfl, rfl⟩
  case round =>
    obtain ⟨rfl, rfl, rfl⟩ := hrel
    go_wp2
    go_ret
    exact ⟨_, rfl, O2.out, B2.out⟩
set_option maxHeartbeats 1000000 in
theorem blend_void (F : Value) (p : Option Addr) (b Gb nb : Nat) (fb : Nat → Bool) (w : World) (h1 : Sized p 0 w) (h2 : St w b Gb nb fb) :
    Calls Tryd.prog 48 #[.pointer p, .pointer (some ⟨b, 0, none⟩), F] w (Blended w 0 (fun _ => false)) := by
  have Z1 := Lib.hid h1.calls; have Z2 := Lib.hid h2.sized.calls
  have N := Lib.hid (newSet 0 0 w (by omega) (by omega) (by omega))
  have hnb : ¬ (nb : Int) < 0 := by omega
  have hle := h2.le
  clear h1 h2
  go_enter Tryd.func48, Tryd.ntmps48
  go_wp2_with fail
  refine Z1.out.mono ?_
  rintro e w' ⟨rfl, rfl⟩
  go_wp2_with fail
  refine Z2.out.mono ?_
  rintro e w' ⟨rfl, rfl⟩
  clear Z1 Z2
  go_wp2_with fail
  refine N.out.mono ?_
  rintro e w1 ⟨s, G, rfl, hs, hG, hst, hb1⟩
  have B1 := Lib.hid hb1; have S1 := Lib.hid hst
  have c1 := hst.c1
  have c0 := hst.c0
  have hw0 : wcount 0 = 0 := rfl
  rw [hw0] at c1
  clear hst hb1 N hw0
  go_wp2
  go_loop [21] (fun i => i = .int .i64 0) (fun i => 0)
  case atStart => exact rfl
  case round =>
    obtain rfl := hrel
    go_wp2
    go_ret
    exact ⟨s, G, rfl, hs, hG, S1.out, B1.out⟩
theorem and_void (p : Option Addr) (b Gb nb : Nat) (fb : Nat → Bool) (w : World) (h1 : Sized p 0 w) (h2 : St w b Gb nb fb) : Calls Tryd.prog 23 #[.pointer p, .pointer (some ⟨b, 0, none⟩)] w (Blended w 0 (fun _ => false)) := by
  have B := Lib.hid (blend_void (.func (.func 49) #[] #[]) p b Gb nb fb w h1 h2)
  clear h1 h2
  go_enter Tryd.func23, Tryd.ntmps23
  go_wp2_with fail
  refine B.out.mono ?_
  rintro e w1 ⟨s, G, rfl, r⟩
  go_wp2
  go_ret
  exact ⟨s, G, rfl, r⟩
set_option maxHeartbeats 1000000 in
set_option maxRecDepth 100000 in
theorem clone_void (p : Option Addr) (w : World) (h : NoSet w p) : Calls Tryd.prog 27 #[.pointer p] w (Blended w 0 (fun _ => false)) := by
  have Z := Lib.hid h.sized.calls
  have N := Lib.hid (newSet 0 0 w (by omega) (by omega) (by omega))
  rcases h with rfl | ⟨a, rfl, h⟩
  · go_enter Tryd.func27, Tryd.ntmps27
    go_wp2_with fail
    refine Z.out.mono ?_
    rintro e w' ⟨rfl, rfl⟩
    clear Z
    go_wp2_with fail
    refine N.out.mono ?_
    rintro e w1 ⟨s, G2, rfl, hs, hG2, hst, hb1⟩
    go_wp2
    go_ret
    exact ⟨s, G2, rfl, hs, hG2, hst, hb1⟩
  · have ca0 : w.cell? ⟨a, 1, none⟩ = some (.slice none 0 0) := by rw [cell_of_row w a 1 _ _ _ h]; rfl
    have halt := (Array.getElem?_eq_some_iff.1 h).1
    have CA := Lib.hid ca0
    clear h ca0
    go_enter Tryd.func27, Tryd.ntmps27
    go_wp2_with fail
    refine Z.out.mono ?_
    rintro e w' ⟨rfl, rfl⟩
    clear Z
    go_wp2_with fail
    refine N.out.mono ?_
    rintro e w1 ⟨s, G2, rfl, hs, hG2, hst, hb1⟩
    have B1 := Lib.hid hb1; have S1 := Lib.hid hst
    clear hst hb1 N
    go_wp2
    have cs1 : w1.drew.cell? ⟨s, 1, none⟩ = some (.slice (some ⟨G2, 0, none⟩) 0 0) := S1.out.c1
    have ca1 : w1.drew.cell? ⟨a, 1, none⟩ = some (.slice none 0 0) := (B1.out.cell (p := ⟨a, 1, none⟩) halt).trans CA.out
    refine rg_start (n := 9) (S := fun w' => w'.cell? ⟨s, 1, none⟩ = some (.slice (some ⟨G2, 0, none⟩) 0 0) ∧ w'.cell? ⟨a, 1, none⟩ = some (.slice none 0 0)) (by kernel_rfl) rfl ⟨cs1, ca1⟩ ?_
    refine rg_pure 0 rfl (.pointer (some ⟨s, 0, none⟩)) (by kernel_rfl) (by kernel_rfl) (by kernel_rfl) (fun _ _ _ _ h => h) (by kernel_rfl) (fun _ => by kernel_rfl) ⟨cs1, ca1⟩ ?_
    refine rg_pure 1 rfl (.pointer (some ⟨s, 0, none⟩)) (by kernel_rfl) (by kernel_rfl) (by kernel_rfl) (fun _ _ _ _ h => h) (by kernel_rfl) (fun _ => by kernel_rfl) ⟨cs1, ca1⟩ ?_
    refine rg_pure 2 rfl (.pointer (some ⟨s, 1, none⟩)) (by kernel_rfl) (by kernel_rfl) (by kernel_rfl) (fun _ _ _ _ h => h) (by kernel_rfl) (fun _ => by kernel_rfl) ⟨cs1, ca1⟩ ?_
    refine rg_load 3 rfl (by kernel_rfl) (by kernel_rfl) (by kernel_rfl) (fun _ _ _ _ h => h) (by kernel_rfl) _ _ rfl Tryd.underlying56 rfl ⟨s, 1, none⟩ (.slice (some ⟨G2, 0, none⟩) 0 0) (by kernel_rfl) (fun w h => h.1) ⟨cs1, ca1⟩ ?_
    refine rg_pure 4 rfl (.pointer (some ⟨a, 0, none⟩)) (by kernel_rfl) (by kernel_rfl) (by kernel_rfl) (fun _ _ _ _ h => h) (by kernel_rfl) (fun _ => by kernel_rfl) ⟨cs1, ca1⟩ ?_
    refine rg_pure 5 rfl (.pointer (some ⟨a, 0, none⟩)) (by kernel_rfl) (by kernel_rfl) (by kernel_rfl) (fun _ _ _ _ h => h) (by kernel_rfl) (fun _ => by kernel_rfl) ⟨cs1, ca1⟩ ?_
    refine rg_pure 6 rfl (.pointer (some ⟨a, 1, none⟩)) (by kernel_rfl) (by kernel_rfl) (by kernel_rfl) (fun _ _ _ _ h => h) (by kernel_rfl) (fun _ => by kernel_rfl) ⟨cs1, ca1⟩ ?_
    refine rg_load 7 rfl (by kernel_rfl) (by kernel_rfl) (by kernel_rfl) (fun _ _ _ _ h => h) (by kernel_rfl) _ _ rfl Tryd.underlying56 rfl ⟨a, 1, none⟩ (.slice none 0 0) (by kernel_rfl) (fun w h => h.2) ⟨cs1, ca1⟩ ?_
    refine rg_run 8 (by kernel_rfl) rfl (by kernel_rfl) (goInt 0) w1.drew (exec_copy _ _ _ _ rfl _ _ (by kernel_rfl) (by kernel_rfl) _ _ (run_copy_none (P := Tryd.prog) _ _ _ _ 67 (some ⟨G2, 0, none⟩) none 0 0 0 0 Tryd.underlying56 sizeInfoW rfl)) ⟨cs1, ca1⟩ ?_
    refine wpAnyH_done (by kernel_rfl) ?_ _
    have S2 : Hid (St w1.drew s G2 0 (fun _ => false)) := S1.out.below (Below.refl _ _).drew
    have B2 := Lib.hid B1.out.drew
    generalize w1.drew = w2 at S2 B2 ⊢
    clear cs1 ca1
    go_wp2
    go_ret
    exact ⟨s, G2, rfl, hs, hG2, S2.out, B2.out⟩
end Go.Proofs.YtmblkccfgncngaaDoor
