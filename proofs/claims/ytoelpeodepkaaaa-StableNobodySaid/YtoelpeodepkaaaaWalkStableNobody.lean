/- The walk of StableNobody. -/
import Derived.Test.YtoelpeodepkaaaaStAwake
import Derived.Test.YtoelpeodepkaaaaVecOpen
namespace Go.Proofs.Ytoelpeodepkaaaa
open Go Go.RowKit

structure Two (w : World) (X b : Nat) : Prop where
  c0 : w.cell? ⟨X, 0, none⟩ = some (.pointer none)
  c1 : w.cell? ⟨X, 1, none⟩ = some (.pointer (some ⟨b, 0, none⟩))
  cb : w.cell? ⟨b, 0, none⟩ = some (.slice none 0 0)
theorem Two.below {w w' : World} {X b : Nat} (h : Two w X b) (hb : Below w.heap.size w w') : Two w' X b :=
  ⟨(hb.cell (p := ⟨X, 0, none⟩) (World.block_lt_of_cell? w _ h.c0)).trans h.c0, (hb.cell (p := ⟨X, 1, none⟩) (World.block_lt_of_cell? w _ h.c1)).trans h.c1, (hb.cell (p := ⟨b, 0, none⟩) (World.block_lt_of_cell? w _ h.cb)).trans h.cb⟩
theorem two_mk (w : World) (t1 t2 : TypeId) : Two ((w.alloc (.cells #[.slice none 0 0] t1)).alloc (.cells #[.pointer none, .pointer (some ⟨w.heap.size, 0, none⟩)] t2)) (w.heap.size + 1) w.heap.size := by
  have h2 := heap_alloc_new (w.alloc (.cells #[.slice none 0 0] t1)) (.cells #[.pointer none, .pointer (some ⟨w.heap.size, 0, none⟩)] t2)
  have e : (w.alloc (.cells #[.slice none 0 0] t1)).heap.size = w.heap.size + 1 := by simp
  rw [e] at h2
  refine ⟨?_, ?_, ?_⟩
  · rw [cell_of_row _ _ 0 _ _ _ h2]; rfl
  · rw [cell_of_row _ _ 1 _ _ _ h2]; rfl
  · refine cell_alloc _ ?_
    rw [cell_of_row _ _ 0 _ _ _ (heap_alloc_new w _)]; rfl

set_option maxHeartbeats 4000000 in
set_option maxRecDepth 100000 in
theorem stableNobody_walk (x : Int) (f : Nat → Int) (W : World) (hx : (Lit.int .i64 x).wf = true) (hf : Wide f) :
    Calls Try.prog 6 #[.int .i64 x, .agg (vf f)] W (Yes W) := by
  have HE := vecI.equalIn 9998 (fun _ => 0) (fun _ => 0)
  rw [veq_self] at HE
  clear hx hf
  go_enter Try.func6, Try.ntmps6
  go_wp2_with (refine wpList_vbox vecI rfl _ rfl f rfl ?_)
  intro gf w1 lf rf hb
  have B1 := Lib.hid hb; have F1 := Lib.hid rf
  clear hb rf
  go_wp2
  have TW := Lib.hid (two_mk w1 57 38)
  have hbB : Below w1.heap.size w1 ((w1.alloc (.cells #[.slice none 0 0] 57)).alloc (.cells #[.pointer none, .pointer (some ⟨w1.heap.size, 0, none⟩)] 38)) := thenBelow (below_alloc _ _) (below_alloc _ _)
  have B2 := Lib.hid (thenBelow B1.out hbB); have F2 := Lib.hid (F1.out.later hbB)
  clear hbB
  generalize ((w1.alloc (.cells #[.slice none 0 0] 57)).alloc (.cells #[.pointer none, .pointer (some ⟨w1.heap.size, 0, none⟩)] 38)) = W2 at TW B2 F2 ⊢
  generalize w1.heap.size = b at TW ⊢
  clear B1 F1
  go_loopw [11] (fun i wr => ∃ k : Nat, k ≤ 2 ∧ i = .int .i64 k ∧ Two wr (b + 1) b ∧ Row wr gf 37 f ∧ Below W.heap.size W wr) (fun i _ => 2 - (intOf i).toNat)
  case atStart => exact ⟨0, by omega, rfl, TW.out, F2.out, B2.out⟩
  case round =>
    obtain ⟨k, hk, rfl, htw, hfr, hbl⟩ := hrel
    have BW := Lib.hid hbl; have FW := Lib.hid hfr
    clear TW B2 F2 hbl hfr
    by_cases hk2 : k = 2
    · subst hk2
      have AW := Lib.hid (awake9 wr)
      clear htw
      go_wp2_with fail
      refine AW.out.mono ?_
      rintro e w3 ⟨rfl, hb3⟩
      have B3 := Lib.hid (thenBelow BW.out hb3)
      go_wp2
      go_ret
      exact ⟨rfl, B3.out⟩
    · have KEY : ∃ p : Option Addr, wr.cell? ⟨b + 1, k, none⟩ = some (.pointer p) ∧ Sized p 0 wr := by
        rcases (show k = 0 ∨ k = 1 by omega) with rfl | rfl
        · exact ⟨none, htw.c0, .inl ⟨rfl, rfl⟩⟩
        · exact ⟨some ⟨b, 0, none⟩, htw.c1, .inr ⟨b, none, 0, rfl, htw.cb⟩⟩
      obtain ⟨p, hcell, hs⟩ := KEY
      have TW := Lib.hid htw; have S := Lib.hid hs
      have hk' : (k : Int) < 2 := by omega
      have SZ := Lib.hid hs.calls
      clear htw hs
      go_wp2_with fail
      refine SZ.out.mono ?_
      rintro e w' ⟨rfl, rfl⟩
      have NT := Lib.hid (note_out p 0 x f wr (lasts_later S.out) (by omega))
      clear SZ
      go_wp2_with (first | refine wpList_vloadG vecI (by rfl) _ rfl gf rfl _ _ FW.out ?_)
      refine NT.out.mono ?_
      rintro e w3 ⟨rfl, hb3⟩
      have B3 := Lib.hid (thenBelow BW.out hb3); have S3 := Lib.hid (lasts_later S.out w3 hb3); have T3 := Lib.hid (TW.out.below hb3); have F3 := Lib.hid (FW.out.later hb3)
      have RO := Lib.hid (row_out p 0 x w3 (lasts_later S3.out) (by omega))
      clear hb3 NT S TW FW BW
      go_wp2_with fail
      refine RO.out.mono ?_
      rintro e w4 ⟨rfl, hb4⟩
      have B4 := Lib.hid (thenBelow B3.out hb4); have S4 := Lib.hid (lasts_later S3.out w4 hb4); have T4 := Lib.hid (T3.out.below hb4); have F4 := Lib.hid (F3.out.later hb4)
      have SN := Lib.hid (stable_none p w4 S4.out)
      clear hb4 RO S3 T3 F3 B3
      go_wp2_with (first | refine wpList_vbuild (by rfl) _ rfl (fun _ => 0) (by simp only [List.map_toArray, List.map_nil]; exact built0 _) ?_)
      refine SN.out.mono ?_
      rintro e w5 ⟨rfl, hb5⟩
      have B5 := Lib.hid (thenBelow B4.out hb5); have S5 := Lib.hid (lasts_later S4.out w5 hb5); have T5 := Lib.hid (T4.out.below hb5); have F5 := Lib.hid (F4.out.later hb5)
      have LN := Lib.hid (lacks_none p f w5 S5.out)
      clear hb5 SN S4 T4 F4 B4
      go_wp2_with (first | refine wpList_vbuild (by rfl) _ rfl (fun _ => 0) (by simp only [List.map_toArray, List.map_nil]; exact built0 _) ?_ | refine wpList_vloadG vecI (by rfl) _ rfl gf rfl _ _ F5.out ?_)
      refine LN.out.mono ?_
      rintro e w6 ⟨rfl, hb6⟩
      have B6 := Lib.hid (thenBelow B5.out hb6); have T6 := Lib.hid (T5.out.below hb6); have F6 := Lib.hid (F5.out.later hb6)
      clear hb6 LN S5 T5 F5 B5
      go_wp2
      go_roundw
      case rel => exact ⟨k + 1, by omega, by go_num, T6.out, F6.out, B6.out⟩
      case measure => simp [intOf]; omega
end Go.Proofs.Ytoelpeodepkaaaa
