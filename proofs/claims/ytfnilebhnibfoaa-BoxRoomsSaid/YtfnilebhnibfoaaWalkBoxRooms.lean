/- The walk of BoxRooms. -/
import Derived.Test.YtfnilebhnibfoaaBoxNil
import Derived.Test.YtfnilebhnibfoaaBoxAwake
import Derived.Test.YtfnilebhnibfoaaOpen
namespace Go.Proofs.Ytfnilebhnibfoaa
open Go Go.RowKit Go.Conc

theorem int_range7 {n : Int} (h : (Lit.int .i64 n).wf = true) : -9223372036854775808 ≤ n ∧ n ≤ 9223372036854775807 := by
  simp [Lit.wf, IntKind.min, IntKind.max, IntKind.bits, IntKind.signed] at h; omega

/-- the two boxes that no call made, as they lie -/
structure Two (w : World) (X b : Nat) : Prop where
  c0 : w.cell? ⟨X, 0, none⟩ = some (.pointer none)
  c1 : w.cell? ⟨X, 1, none⟩ = some (.pointer (some ⟨b, 0, none⟩))
  cb : w.cell? ⟨b, 0, none⟩ = some (.chan none)
theorem Two.below {w w' : World} {X b : Nat} (h : Two w X b) (hb : Below w.heap.size w w') : Two w' X b :=
  ⟨(hb.cell (p := ⟨X, 0, none⟩) (World.block_lt_of_cell? w _ h.c0)).trans h.c0, (hb.cell (p := ⟨X, 1, none⟩) (World.block_lt_of_cell? w _ h.c1)).trans h.c1, (hb.cell (p := ⟨b, 0, none⟩) (World.block_lt_of_cell? w _ h.cb)).trans h.cb⟩
theorem two_mk (w : World) (t1 t2 : TypeId) : Two ((w.alloc (.cells #[.chan none] t1)).alloc (.cells #[.pointer none, .pointer (some ⟨w.heap.size, 0, none⟩)] t2)) (w.heap.size + 1) w.heap.size := by
  have h2 := heap_alloc_new (w.alloc (.cells #[.chan none] t1)) (.cells #[.pointer none, .pointer (some ⟨w.heap.size, 0, none⟩)] t2)
  have e : (w.alloc (.cells #[.chan none] t1)).heap.size = w.heap.size + 1 := by simp
  rw [e] at h2
  refine ⟨?_, ?_, ?_⟩
  · rw [cell_of_row _ _ 0 _ _ _ h2]; rfl
  · rw [cell_of_row _ _ 1 _ _ _ h2]; rfl
  · refine cell_alloc _ ?_
    rw [cell_of_row _ _ 0 _ _ _ (heap_alloc_new w _)]; rfl

set_option maxHeartbeats 8000000 in
set_option maxRecDepth 100000 in
theorem boxRooms_walk (room x : Int) (W : World) (hr : (Lit.int .i64 room).wf = true) (hx : (Lit.int .i64 x).wf = true) :
    Calls Try.prog 6 #[.int .i64 room, .int .i64 x] W (Yes W) := by
  have hrr := int_range7 hr
  obtain ⟨cap, hcap⟩ : ∃ cap : Nat, (cap : Int) = min (max room 0) 4096 := ⟨(min (max room 0) 4096).toNat, by omega⟩
  have hc6 : cap ≤ 4096 := by omega
  have N := Lib.hid (newI room cap W hrr hcap)
  obtain ⟨r1, r2⟩ := hrr
  clear hr hx
  have key : room < 0 ∧ cap = 0 ∨ (0 ≤ room ∧ room ≤ 4096) ∧ (cap : Int) = room ∨ 4096 < room ∧ cap = 4096 := by omega
  clear hcap
  rcases key with ⟨h1, rfl⟩ | ⟨⟨h1, h2⟩, rfl⟩ | ⟨h1, rfl⟩
  all_goals
    go_enter Try.func6, Try.ntmps6
    go_wp2_with fail
    refine N.out.mono ?_
    rintro e w1 ⟨a, C, rfl, ha, hC, hb, hbel⟩
    have R := Lib.hid (roomI a C _ [] w1 hb hc6)
    simp only [List.length_nil, Nat.sub_zero] at R
    have B1 := Lib.hid hbel
    clear hb hbel N
    go_wp2_with fail
    refine R.out.mono ?_
    rintro e w' ⟨rfl, rfl⟩
    clear R
    go_wp2
    have TW := Lib.hid (two_mk w1 56 23)
    have B2 : Hid (Below W.heap.size W ((w1.alloc (.cells #[.chan none] 56)).alloc (.cells #[.pointer none, .pointer (some ⟨w1.heap.size, 0, none⟩)] 23))) :=
      (B1.out.alloc B1.out.size _).alloc (by have := B1.out.size; simp; omega) _
    generalize ((w1.alloc (.cells #[.chan none] 56)).alloc (.cells #[.pointer none, .pointer (some ⟨w1.heap.size, 0, none⟩)] 23)) = W2 at TW B2 ⊢
    generalize w1.heap.size = b at TW ⊢
    clear B1
    go_loopw [22] (fun i wr => ∃ k : Nat, k ≤ 2 ∧ i = .int .i64 k ∧ Two wr (b + 1) b ∧ Below W.heap.size W wr) (fun i _ => 2 - (intOf i).toNat)
    case atStart => exact ⟨0, by omega, rfl, TW.out, B2.out⟩
    case round =>
      obtain ⟨k, hk, rfl, htw, hbl⟩ := hrel
      have BW := Lib.hid hbl
      have hz := hbl.size
      clear TW B2 hbl
      by_cases hk2 : k = 2
      · subst hk2
        have AW := Lib.hid (awake7 wr)
        clear htw
        go_wp2_with fail
        refine AW.out.mono ?_
        rintro e w3 ⟨rfl, hb3⟩
        have B3 := Lib.hid (BW.out.trans (hb3.mono hz))
        go_wp2
        go_ret
        exact ⟨rfl, B3.out⟩
      · have KEY : ∃ p : Option Addr, wr.cell? ⟨b + 1, k, none⟩ = some (.pointer p) ∧ NoLine p wr := by
          rcases (show k = 0 ∨ k = 1 by omega) with rfl | rfl
          · exact ⟨none, htw.c0, .inl rfl⟩
          · exact ⟨some ⟨b, 0, none⟩, htw.c1, .inr ⟨b, rfl, htw.cb⟩⟩
        obtain ⟨p, hcell, hnl⟩ := KEY
        have TW := Lib.hid htw; have NL := Lib.hid hnl
        have hk' : (k : Int) < 2 := by omega
        have T := Lib.hid (TakeNil p wr hnl)
        have PL := Lib.hid (PullNil p x wr hnl)
        clear htw hnl
        go_wp2_with fail
        refine T.out.mono ?_
        rintro e w' ⟨rfl, rfl⟩
        go_wp2_with fail
        refine PL.out.mono ?_
        rintro e w3 ⟨rfl, hb3⟩
        have B3 := Lib.hid (BW.out.trans (hb3.mono hz)); have N3 := Lib.hid (NL.out.below hb3); have T3 := Lib.hid (TW.out.below hb3)
        have PT := Lib.hid (PutNil p x w3 N3.out)
        clear hb3 PL T NL TW BW
        go_wp2_with fail
        refine PT.out.mono ?_
        rintro e w4 ⟨rfl, hb4⟩
        have B4 := Lib.hid (B3.out.trans (hb4.mono B3.out.size)); have N4 := Lib.hid (N3.out.below hb4); have T4 := Lib.hid (T3.out.below hb4)
        have LN := Lib.hid (lenNil p w4 N4.out); have RM := Lib.hid (roomNil p w4 N4.out); have LS := Lib.hid (ListNil p w4 N4.out)
        clear hb4 PT N3 T3 B3
        go_wp2_with fail
        refine LN.out.mono ?_
        rintro e w' ⟨rfl, rfl⟩
        go_wp2_with fail
        refine RM.out.mono ?_
        rintro e w' ⟨rfl, rfl⟩
        go_wp2_with fail
        refine LS.out.mono ?_
        rintro e w5 ⟨⟨q, c, rfl⟩, hb5⟩
        have B5 := Lib.hid (B4.out.trans (hb5.mono B4.out.size)); have N5 := Lib.hid (N4.out.below hb5); have T5 := Lib.hid (T4.out.below hb5)
        have NW := Lib.hid (newI 3 3 w5 (by omega) (by omega))
        clear hb5 LS RM LN N4 T4 B4
        go_wp2_with fail
        refine NW.out.mono ?_
        rintro e w6 ⟨a6, C6, rfl, _, _, hx6, hb6⟩
        have B6 := Lib.hid (B5.out.trans (hb6.mono B5.out.size)); have N6 := Lib.hid (N5.out.below hb6); have T6 := Lib.hid (T5.out.below hb6)
        have P1 := Lib.hid (PourNil1 p a6 C6 3 w6 N6.out hx6 (by omega))
        clear hb6 NW N5 T5 B5 hx6
        go_wp2_with fail
        refine P1.out.mono ?_
        rintro e w' ⟨rfl, rfl⟩
        have NW := Lib.hid (newI 3 3 w6 (by omega) (by omega))
        go_wp2_with fail
        refine NW.out.mono ?_
        rintro e w7 ⟨a7, C7, rfl, _, _, hx7, hb7⟩
        have B7 := Lib.hid (B6.out.trans (hb7.mono B6.out.size)); have N7 := Lib.hid (N6.out.below hb7); have T7 := Lib.hid (T6.out.below hb7)
        have P2 := Lib.hid (PourNil2 p a7 C7 3 w7 N7.out hx7 (by omega))
        clear hb7 NW N6 T6 B6 hx7
        go_wp2_with fail
        refine P2.out.mono ?_
        rintro e w' ⟨rfl, rfl⟩
        go_wp2
        go_roundw
        case rel => exact ⟨k + 1, by omega, by go_num, T7.out, B7.out⟩
        case measure => simp [intOf]; omega
end Go.Proofs.Ytfnilebhnibfoaa
