/- suggest, of a dictionary that no call made. -/
import Derived.Test.YtnlechjpiphmiaaDoorSugAwake
import Derived.Test.YtnlechjpiphmiaaDoorUtfTexts
import Derived.Test.YtnlechjpiphmiaaDoorRgMore
import Derived.Lib.LazyBuf
namespace Go.Proofs.YtnlechjpiphmiaaDoor
open Go Go.RowKit
set_option linter.unusedVariables false

theorem dLen_nil (w : World) : Calls Tryd.prog 52 #[.pointer none] w fun e w' => e = .returned (.int .i64 0) ∧ w = w' := by
  go_enter Tryd.func52, Tryd.ntmps52
  go_wp2
  go_ret
  exact ⟨rfl, rfl⟩
theorem dSeek_nil (x : ByteArray) (w : World) : Calls Tryd.prog 50 #[.pointer none, .string x] w fun e w' => e = .returned (.tuple #[.int .i64 0, .bool false]) ∧ w = w' := by
  go_enter Tryd.func50, Tryd.ntmps50
  go_wp2
  go_ret2
  exact ⟨rfl, rfl⟩
theorem search_nil (f : Value) (w : World) : Calls Tryd.prog 51 #[.int .i64 0, f] w fun e w' => e = .returned (.int .i64 0) ∧ w = w' := by
  go_enter Tryd.func51, Tryd.ntmps51
  go_wp2
  go_loopw [5, 6] (fun i j wr => i = .int .i64 0 ∧ j = .int .i64 0 ∧ w = wr) (fun _ _ _ => 0)
  case atStart => exact ⟨rfl, rfl, rfl⟩
  case round =>
    obtain ⟨rfl, rfl, rfl⟩ := hrel
    go_wp2
    go_ret
    exact ⟨rfl, rfl⟩
set_option maxHeartbeats 8000000 in
set_option maxRecDepth 100000 in
theorem dRange_nil (x : ByteArray) (w : World) : Calls Tryd.prog 32 #[.pointer none, .string x] w fun e w' => e = .returned (.tuple #[.int .i64 0, .int .i64 0]) ∧ Below w.heap.size w w' := by
  have hbel : Below w.heap.size w ((w.alloc (.cells #[.pointer none] 25)).alloc (.cells #[.string x] 9)) := ((Below.refl _ _).alloc (Nat.le_refl _) _).alloc (by simp) _
  have SK := Lib.hid (dSeek_nil x ((w.alloc (.cells #[.pointer none] 25)).alloc (.cells #[.string x] 9)))
  have hcd : ((w.alloc (.cells #[.pointer none] 25)).alloc (.cells #[.string x] 9)).cell? ⟨w.heap.size, 0, none⟩ = some (.pointer none) :=
    cell_alloc _ ((cell_of_row _ _ 0 _ _ _ (heap_alloc_new w _)).trans rfl)
  have hcp : ((w.alloc (.cells #[.pointer none] 25)).alloc (.cells #[.string x] 9)).cell? ⟨w.heap.size + 1, 0, none⟩ = some (.string x) := by
    have e := heap_alloc_new (w.alloc (.cells #[.pointer none] 25)) (.cells #[.string x] 9)
    rw [World.size_alloc] at e
    exact (cell_of_row _ _ 0 _ _ _ e).trans rfl
  have HB := Lib.hid hbel; have HCD := Lib.hid hcd
  clear hbel hcd hcp
  go_enter Tryd.func32, Tryd.ntmps32
  go_wp2_with fail
  generalize (w.alloc (.cells #[.pointer none] 25)).alloc (.cells #[.string x] 9) = w1 at SK HB HCD ⊢
  refine SK.out.mono ?_
  rintro e w2 ⟨rfl, rfl⟩
  have S3 : Hid ((w1.alloc (.cells #[.int .i64 0] 3)).cell? ⟨w.heap.size, 0, none⟩ = some (.pointer none) ∧ (w1.alloc (.cells #[.int .i64 0] 3)).cell? ⟨w1.heap.size, 0, none⟩ = some (.int .i64 0)) :=
    ⟨cell_alloc _ HCD.out, (cell_of_row _ _ 0 _ _ _ (heap_alloc_new w1 _)).trans rfl⟩
  have B3 := Lib.hid (HB.out.alloc HB.out.size (.cells #[.int .i64 0] 3))
  clear SK HB HCD
  go_wp2_with fail
  generalize w1.alloc (.cells #[.int .i64 0] 3) = w3 at S3 B3 ⊢
  generalize w1.heap.size = Bf at S3 ⊢
  obtain ⟨Bp, hBp⟩ : ∃ Bp, w.heap.size + 1 = Bp := ⟨_, rfl⟩
  rw [hBp]
  obtain ⟨Bd, hBd⟩ : ∃ Bd, Bd = w.heap.size := ⟨_, rfl⟩
  rw [← hBd] at S3 ⊢
  clear hBp hBd
  have HS : w3.drew.cell? ⟨Bd, 0, none⟩ = some (.pointer none) ∧ w3.drew.cell? ⟨Bf, 0, none⟩ = some (.int .i64 0) := S3.out
  refine rg_last (by kernel_rfl) rfl (S := fun V => V.cell? ⟨Bd, 0, none⟩ = some (.pointer none) ∧ V.cell? ⟨Bf, 0, none⟩ = some (.int .i64 0)) ?_
  refine rgd_load 0 (some 15) rfl rfl (by kernel_rfl) (by kernel_rfl) (by kernel_rfl) (fun _ _ _ _ h => h) (by kernel_rfl) _ _ rfl Tryd.underlying25 rfl ⟨Bd, 0, none⟩ (.pointer none) (by kernel_rfl) (fun w h => h.1) HS ?_
  refine rgd_load 2 (some 17) rfl rfl (by kernel_rfl) (by kernel_rfl) (by kernel_rfl) (fun _ _ _ _ h => h) (by kernel_rfl) _ _ rfl Tryd.underlying3 rfl ⟨Bf, 0, none⟩ (.int .i64 0) (by kernel_rfl) (fun w h => h.2) HS ?_
  refine rgd_pure 4 (some 19) rfl rfl (.func (.func 53) #[] #[.pointer (some ⟨Bd, 0, none⟩), .pointer (some ⟨Bf, 0, none⟩), .pointer (some ⟨Bp, 0, none⟩)]) (by kernel_rfl) (by kernel_rfl) (by kernel_rfl) (fun _ _ _ _ h => h) (by kernel_rfl) (fun _ => by kernel_rfl) HS ?_
  refine rgd_call 1 (some 16) (by kernel_rfl) rfl rfl (by kernel_rfl) 52 #[.pointer none] (by kernel_rfl) (dLen_nil _) ?_
  rintro e w4 ⟨rfl, hw4⟩
  cases hw4
  refine ⟨_, rfl, HS, ?_⟩
  refine rgd_pure 3 (some 18) rfl rfl (.int .i64 0) (by kernel_rfl) (by kernel_rfl) (by kernel_rfl) (fun _ _ _ _ h => h) (by kernel_rfl) (fun _ => by kernel_rfl) HS ?_
  refine rgd_call 5 (some 20) (by kernel_rfl) rfl rfl (by kernel_rfl) 51 #[.int .i64 0, .func (.func 53) #[] #[.pointer (some ⟨Bd, 0, none⟩), .pointer (some ⟨Bf, 0, none⟩), .pointer (some ⟨Bp, 0, none⟩)]] (by kernel_rfl) (search_nil _ _) ?_
  rintro e w5 ⟨rfl, hw5⟩
  cases hw5
  refine ⟨_, rfl, HS, ?_⟩
  refine rgd_pure 6 (some 8) rfl rfl (.int .i64 0) (by kernel_rfl) (by kernel_rfl) (by kernel_rfl) (fun _ _ _ _ h => h) (by kernel_rfl) (exec_is _ (.inr rfl) _ (by kernel_rfl)) HS ?_
  refine wpAnyH_done (by kernel_rfl) ?_ _
  have cf := S3.out.2
  clear HS S3
  simp only [Act.put, List.setIfInBounds_toArray, List.set_cons_zero, List.set_cons_succ]
  go_wp2_with fail
  go_quiet (fail)
  go_wp2
  go_ret2
  exact ⟨rfl, ⟨B3.out.os, B3.out.tape, B3.out.output, B3.out.size, B3.out.block⟩⟩
set_option maxHeartbeats 4000000 in
theorem complete_nil (x : ByteArray) (k : Int) (w : World) (hk : -9223372036854775808 ≤ k ∧ k ≤ 9223372036854775807) : Calls Tryd.prog 14 #[.pointer none, .string x, .int .i64 k] w fun e w' => e = .returned (.slice none 0 0) ∧ Below w.heap.size w w' := by
  have RG := Lib.hid (dRange_nil x w)
  obtain ⟨r, hr⟩ : ∃ r, min (min (0 : Int) k) 20 = r := ⟨_, rfl⟩
  have hr0 : ¬ (0 : Int) < r := by omega
  go_enter Tryd.func14, Tryd.ntmps14
  go_wp2_with fail
  refine RG.out.mono ?_
  rintro e w1 ⟨rfl, hb1⟩
  have B1 := Lib.hid hb1
  clear hb1 RG
  go_wp2_with fail
  · have hk0 : ¬ (0 : Int) < k := by omega
    go_loopw [9, 24] (fun r i wr => r = .slice none 0 0 ∧ i = .int .i64 0 ∧ w1 = wr) (fun _ _ _ => 0)
    case atStart => exact ⟨rfl, rfl, rfl⟩
    case round =>
      obtain ⟨rfl, rfl, rfl⟩ := hrel
      go_wp2
      go_ret
      exact ⟨rfl, B1.out⟩
  · go_loopw [9, 24] (fun r i wr => r = .slice none 0 0 ∧ i = .int .i64 0 ∧ w1 = wr) (fun _ _ _ => 0)
    case atStart => exact ⟨rfl, rfl, rfl⟩
    case round =>
      obtain ⟨rfl, rfl, rfl⟩ := hrel
      go_wp2
      go_ret
      exact ⟨rfl, B1.out⟩
/-- a dictionary that no call made -/
def NoDict (w : World) (v : Value) : Prop := v = .pointer none ∨ ∃ D, v = .pointer (some ⟨D, 0, none⟩) ∧ w.heap[D]? = some (.cells #[.slice none 0 0, .bool false] 54 (0, 0))
theorem NoDict.below {w w' : World} {v : Value} (h : NoDict w v) (hb : Below w.heap.size w w') : NoDict w' v := by
  rcases h with h | ⟨D, rfl, h⟩
  · exact .inl h
  · exact .inr ⟨D, rfl, (hb.block D (Array.getElem?_eq_some_iff.1 h).1).trans h⟩
theorem cloneS_nil (w : World) : Calls Tryd.prog 24 #[.slice none 0 0] w fun e w' => e = .returned (.slice none 0 0) ∧ w = w' := by
  have q : ∀ (w : World) (a : Option Addr) (n c n' c' : Nat), (binOp .eql 22 (.slice a n c) (.slice none n' c')).run Tryd.prog w = .ok (.bool a.isNone) w := fun w a n c n' c' => Lib.run_eql_slice_nil w _ _ a n c n' c' Tryd.underlying22
  go_enter Tryd.func24, Tryd.ntmps24
  go_wp2
  go_ret
  exact ⟨rfl, rfl⟩
theorem words_nil (v : Value) (w : World) (h : NoDict w v) : Calls Tryd.prog 22 #[v] w fun e w' => e = .returned (.slice none 0 0) ∧ w = w' := by
  rcases h with rfl | ⟨D, rfl, h⟩
  · go_enter Tryd.func22, Tryd.ntmps22
    go_wp2
    go_ret
    exact ⟨rfl, rfl⟩
  · have c0 := (cell_of_row w D 0 _ _ _ h).trans rfl
    have CL := Lib.hid (cloneS_nil w)
    clear h
    go_enter Tryd.func22, Tryd.ntmps22
    go_wp2_with fail
    refine CL.out.mono ?_
    rintro e w' ⟨rfl, rfl⟩
    go_wp2
    go_ret
    exact ⟨rfl, rfl⟩
theorem steady_is (w : World) : Calls Tryd.prog 40 #[.func (.func 26) #[] #[]] w fun e w' => e = .returned (.func (.func 68) #[] #[.pointer (some ⟨w.heap.size, 0, none⟩)]) ∧ Below w.heap.size w w' := by
  go_enter Tryd.func40, Tryd.ntmps40
  go_wp2
  go_ret
  exact ⟨rfl, (Below.refl _ _).alloc (Nat.le_refl _) _⟩
theorem run_storeFn (P : Program) (w : World) (a : Addr) (f : Fn) (b c : Array Value) (m : Mode) : (store a (.func f b c) m).run P w = stored P w a (.func f b c) m := run_store P w a _ m rfl
/-- a best one without anything -/
def Bare (w : World) (H : Nat) : Prop := ∃ k f, w.heap[H]? = some (.cells #[.int .i64 k, f, .slice none 0 0, .int .i64 0] 75 (0, 0))
set_option maxHeartbeats 4000000 in
theorem newBest_is (k : Int) (w : World) : Calls Tryd.prog 25 #[.int .i64 k, .func (.func 26) #[] #[]] w fun e w' => ∃ H, e = .returned (.pointer (some ⟨H, 0, none⟩)) ∧ w.heap.size ≤ H ∧ Bare w' H ∧ Below w.heap.size w w' := by
  have hne : ∀ w : World, (binOp .eql 58 (.func (.func 26) #[] #[]) .nilFunc).run Tryd.prog w = .ok (.bool false) w := fun w => by kernel_rfl
  have ST := Lib.hid (steady_is w)
  go_enter Tryd.func25, Tryd.ntmps25
  go_wp2_with fail
  refine ST.out.mono ?_
  rintro e w1 ⟨rfl, hb1⟩
  have B1 := Lib.hid hb1
  have hz1 := hb1.size
  have h1 := heap_alloc_new w1 (.cells #[.nilFunc] 72)
  have c1 := (cell_of_row _ w1.heap.size 0 _ _ _ h1).trans (show _ = some Value.nilFunc from rfl)
  have f1 := frozen_of_row _ w1.heap.size 0 _ _ h1
  have hb2 := (hb1.alloc hz1 (.cells #[.nilFunc] 72)).setCell (p := ⟨w1.heap.size, 0, none⟩) hz1 (.func (.func 68) #[] #[.pointer (some ⟨w.heap.size, 0, none⟩)])
  have hz2 : ((w1.alloc (.cells #[.nilFunc] 72)).setCell ⟨w1.heap.size, 0, none⟩ (.func (.func 68) #[] #[.pointer (some ⟨w.heap.size, 0, none⟩)])).heap.size = w1.heap.size + 1 := by simp
  have HB := Lib.hid hb2; have HZ2 := Lib.hid hz2; have HZ1 := Lib.hid hz1
  clear h1 hb1 hb2 hz1 hz2 ST B1
  go_wp2_with fail
  rw [run_storeFn]
  unfold stored
  rw [c1]
  simp only [f1, Bool.false_eq_true, if_false]
  clear c1 f1
  generalize (w1.alloc (.cells #[.nilFunc] 72)).setCell ⟨w1.heap.size, 0, none⟩ (.func (.func 68) #[] #[.pointer (some ⟨w.heap.size, 0, none⟩)]) = w2 at HB HZ2 ⊢
  go_wp2_with fail
  go_ret
  have hz := HZ2.out; have hz1 := HZ1.out
  exact ⟨w2.heap.size, rfl, by omega, ⟨_, _, heap_alloc_new w2 (.cells #[.int .i64 k, .func (.func 41) #[] #[.pointer (some ⟨w1.heap.size, 0, none⟩)], .slice none 0 0, .int .i64 0] 75)⟩, HB.out.alloc (by omega) _⟩
set_option maxHeartbeats 4000000 in
set_option maxRecDepth 100000 in
theorem take_bare (H : Nat) (w : World) (h : Bare w H) : Calls Tryd.prog 29 #[.pointer (some ⟨H, 0, none⟩)] w fun e w' => (∃ q c, e = .returned (.slice q 0 c)) ∧ Below H w w' := by
  obtain ⟨k, f, h⟩ := h
  have hlt : H < w.heap.size := (Array.getElem?_eq_some_iff.1 h).1
  have c2 := (cell_of_row w H 2 _ _ _ h).trans (show _ = some (Value.slice none 0 0) from rfl)
  have c3 := (cell_of_row w H 3 _ _ _ h).trans (show _ = some (Value.int .i64 0) from rfl)
  have f2 := frozen_of_row w H 2 _ _ h
  have f3 := frozen_of_row w H 3 _ _ h
  obtain ⟨M, hmk⟩ : ∃ M : Array Value, ∀ W : World, (Instr.makeSlice 30 (.int .i64 0) (.int .i64 0)).run Tryd.prog W = .ok (.slice (some ⟨W.heap.size, 0, none⟩) 0 0) (W.alloc (.cells M 32)) := by
    have hi : ∃ i z, Tryd.prog.info? 32 = some i ∧ i.zero = some z ∧ i.bytes = 24 ∧ i.size = 2 := ⟨_, _, rfl, rfl, rfl, rfl⟩
    obtain ⟨i, z, h1, h2, h3, h4⟩ := hi
    have hr := fun W : World => run_make (P := Tryd.prog) W 30 32 i z Tryd.underlying30 h1 h2 .i64 .i64 0 0 (by omega) (Int.le_refl _) (by rw [h3]; omega) (by omega)
    exact ⟨_, hr⟩
  have B3 := Lib.hid (((Below.refl H w).setCell (p := ⟨H, 2, none⟩) (Nat.le_refl H) (.slice none 0 0)).setCell (p := ⟨H, 3, none⟩) (Nat.le_refl H) (.int .i64 0))
  clear h
  go_enter Tryd.func29, Tryd.ntmps29
  go_wp2
  generalize (w.setCell ⟨H, 2, none⟩ (.slice none 0 0)).setCell ⟨H, 3, none⟩ (.int .i64 0) = w3 at B3 ⊢
  have B4 := Lib.hid (B3.out.alloc (Nat.le_trans (Nat.le_of_lt hlt) B3.out.size) (.cells M 32))
  clear B3 c2 c3 f2 f3 hmk
  generalize w3.alloc (.cells M 32) = w4 at B4 ⊢
  go_loopw [5] (fun i wr => i = .int .i64 (-1) ∧ w4 = wr) (fun _ _ => 0)
  case atStart => exact ⟨rfl, rfl⟩
  case round =>
    obtain ⟨rfl, rfl⟩ := hrel
    go_wp2
    go_ret
    exact ⟨⟨_, _, rfl⟩, B4.out⟩
end Go.Proofs.YtnlechjpiphmiaaDoor
