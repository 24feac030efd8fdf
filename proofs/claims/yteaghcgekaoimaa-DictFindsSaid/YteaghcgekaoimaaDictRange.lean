/- Dictionaries: Range. -/
import Derived.Test.YteaghcgekaoimaaDictFindW2
namespace Go.Proofs.Yteaghcgekaoimaa
open Go Go.RowKit
set_option linter.unusedVariables false

theorem exec_sub {P : Program} {o : Oper} {a : Act} (t yt : TypeId) (x y : Operand) (ho : o.op = .binOp .sub t x y yt) (X Y R : Int) (hR : IntKind.i64.wrap (X - Y) = R) (hx : a.eval x = .int .i64 X) (hy : a.eval y = .int .i64 Y) (w : World) :
    (execOp a.eval o).run P w = .ok (.value (.int .i64 R)) w := by
  subst hR
  unfold execOp
  simp only [ho, hx, hy]
  rfl
set_option maxHeartbeats 8000000 in
set_option maxRecDepth 100000 in
theorem range_is (D : Nat) (l : List ByteArray) (x : ByteArray) (A M : Nat) (w : World) (h : Dc w D l) (hA : Cut l x A) (hM : Starts l x A M) (hp : Proper l) (hl : l.length ≤ 1000000) :
    Calls Try.prog 16 #[.pointer (some ⟨D, 0, none⟩), .string x] w fun e w' => e = .returned (.tuple #[.int .i64 (A : Nat), .int .i64 ((A + M : Nat) : Int)]) ∧ Below w.heap.size w w' := by
  obtain ⟨n, hn⟩ : ∃ n, A + n = l.length := ⟨l.length - A, by have := hA.le; omega⟩
  have hle := hM.le
  have HM := Lib.hid hM
  obtain ⟨am2, ham⟩ : ∃ s, A + M = s := ⟨_, rfl⟩
  rw [ham]
  have HAM := Lib.hid ham
  clear ham
  have wr : IntKind.i64.wrap (((l.length : Nat) : Int) - ((A : Nat) : Int)) = ((n : Nat) : Int) := by rw [IntWalk.i64_in _ ⟨by omega, by omega⟩]; omega
  have WR := Lib.hid wr
  have hbel : Below w.heap.size w ((w.alloc (.cells #[.pointer (some ⟨D, 0, none⟩)] 25)).alloc (.cells #[.string x] 9)) := ((Below.refl _ _).alloc (Nat.le_refl _) _).alloc (by simp) _
  have SK := Lib.hid (dictSeek_is D l x A _ (h.below hbel) hA hp hl)
  have hcd : ((w.alloc (.cells #[.pointer (some ⟨D, 0, none⟩)] 25)).alloc (.cells #[.string x] 9)).cell? ⟨w.heap.size, 0, none⟩ = some (.pointer (some ⟨D, 0, none⟩)) :=
    cell_alloc _ ((cell_of_row _ _ 0 _ _ _ (heap_alloc_new w _)).trans rfl)
  have hcp : ((w.alloc (.cells #[.pointer (some ⟨D, 0, none⟩)] 25)).alloc (.cells #[.string x] 9)).cell? ⟨w.heap.size + 1, 0, none⟩ = some (.string x) := by
    have e := heap_alloc_new (w.alloc (.cells #[.pointer (some ⟨D, 0, none⟩)] 25)) (.cells #[.string x] 9)
    rw [World.size_alloc] at e
    exact (cell_of_row _ _ 0 _ _ _ e).trans rfl
  have HB := Lib.hid hbel; have HCD := Lib.hid hcd; have HCP := Lib.hid hcp
  have HD := Lib.hid (h.below hbel)
  have hn0 := hn
  clear h hA hM wr hbel hcd hcp hn0
  generalize among l l.length x = am at SK
  go_enter Try.func16, Try.ntmps16
  go_wp2_with fail
  refine SK.out.mono ?_
  rintro e w2 ⟨rfl, hb2⟩
  have B2 := Lib.hid (thenBelow HB.out hb2)
  have S3 : Hid (RSt (w2.alloc (.cells #[.int .i64 (A : Nat)] 3)) w.heap.size w2.heap.size (w.heap.size + 1) D l A x) := by
    have ha : Below w2.heap.size w2 (w2.alloc (.cells #[.int .i64 (A : Nat)] 3)) := (Below.refl _ _).alloc (Nat.le_refl _) _
    refine ⟨cell_alloc _ ((hb2.cell (p := ⟨w.heap.size, 0, none⟩) (World.block_lt_of_cell? _ _ HCD.out)).trans HCD.out), (cell_of_row _ _ 0 _ _ _ (heap_alloc_new w2 _)).trans rfl, cell_alloc _ ((hb2.cell (p := ⟨w.heap.size + 1, 0, none⟩) (World.block_lt_of_cell? _ _ HCP.out)).trans HCP.out), (HD.out.below hb2).below ha⟩
  have B3 := Lib.hid (B2.out.alloc B2.out.size (.cells #[.int .i64 (A : Nat)] 3))
  clear hb2 SK B2 HB HCD HCP HD
  go_wp2_with fail
  generalize w2.alloc (.cells #[.int .i64 (A : Nat)] 3) = w3 at S3 B3 ⊢
  generalize w2.heap.size = Bf at S3 ⊢
  obtain ⟨Bp, hBp⟩ : ∃ Bp, w.heap.size + 1 = Bp := ⟨_, rfl⟩
  rw [hBp] at S3 ⊢
  obtain ⟨Bd, hBd⟩ : ∃ Bd, Bd = w.heap.size := ⟨_, rfl⟩
  rw [← hBd] at S3 ⊢
  have BD := Lib.hid hBd
  clear hBp hBd
  have HS : RSt w3.drew Bd Bf Bp D l A x := S3.out.below (Below.refl _ _).drew
  have wr := WR.out
  refine rg_last (by kernel_rfl) rfl (S := fun V => RSt V Bd Bf Bp D l A x) ?_
  refine rgd_load 0 (some 15) rfl rfl (by kernel_rfl) (by kernel_rfl) (by kernel_rfl) (fun _ _ _ _ h => h) (by kernel_rfl) _ _ rfl Try.underlying25 rfl ⟨Bd, 0, none⟩ (.pointer (some ⟨D, 0, none⟩)) (by kernel_rfl) (fun w h => h.d) HS ?_
  refine rgd_load 2 (some 17) rfl rfl (by kernel_rfl) (by kernel_rfl) (by kernel_rfl) (fun _ _ _ _ h => h) (by kernel_rfl) _ _ rfl Try.underlying3 rfl ⟨Bf, 0, none⟩ (.int .i64 (A : Nat)) (by kernel_rfl) (fun w h => h.f) HS ?_
  refine rgd_pure 4 (some 19) rfl rfl (.func (.func 28) #[] #[.pointer (some ⟨Bd, 0, none⟩), .pointer (some ⟨Bf, 0, none⟩), .pointer (some ⟨Bp, 0, none⟩)]) (by kernel_rfl) (by kernel_rfl) (by kernel_rfl) (fun _ _ _ _ h => h) (by kernel_rfl) (fun _ => by kernel_rfl) HS ?_
  refine rgd_call 1 (some 16) (by kernel_rfl) rfl rfl (by kernel_rfl) 11 #[.pointer (some ⟨D, 0, none⟩)] (by kernel_rfl) (dictLen_is D l _ HS.dict) ?_
  rintro e w4 ⟨rfl, hw4⟩
  cases hw4
  refine ⟨_, rfl, HS, ?_⟩
  refine rgd_pure 3 (some 18) rfl rfl (.int .i64 (n : Nat)) (by kernel_rfl) (by kernel_rfl) (by kernel_rfl) (fun _ _ _ _ h => h) (by kernel_rfl) (exec_sub _ _ _ _ rfl (l.length : Nat) (A : Nat) _ wr (by kernel_rfl) (by kernel_rfl)) HS ?_
  refine rgd_call 5 (some 20) (by kernel_rfl) rfl rfl (by kernel_rfl) 27 #[.int .i64 (n : Nat), .func (.func 28) #[] #[.pointer (some ⟨Bd, 0, none⟩), .pointer (some ⟨Bf, 0, none⟩), .pointer (some ⟨Bp, 0, none⟩)]] (by kernel_rfl) (searchR_is n M Bd Bf Bp D l A x _ HS hn HM.out hl) ?_
  rintro e w5 ⟨rfl, hb5⟩
  have HS5 := HS.below hb5
  refine ⟨_, rfl, HS5, ?_⟩
  refine rgd_pure 6 (some 8) rfl rfl (.int .i64 (M : Nat)) (by kernel_rfl) (by kernel_rfl) (by kernel_rfl) (fun _ _ _ _ h => h) (by kernel_rfl) (exec_is _ (.inr rfl) _ (by kernel_rfl)) HS5 ?_
  refine wpAnyH_done (by kernel_rfl) ?_ _
  have B5 : Hid (Below w.heap.size w w5) := thenBelow (B3.out.trans ((Below.refl _ _).drew.mono B3.out.size)) hb5
  have S5 := Lib.hid HS5
  clear HS HS5 hb5 wr WR B3 S3
  simp only [Act.put, List.setIfInBounds_toArray, List.set_cons_zero, List.set_cons_succ]
  have cf := S5.out.f
  have wa : IntKind.i64.wrap (((A : Nat) : Int) + ((M : Nat) : Int)) = ((am2 : Nat) : Int) := by have := HAM.out; rw [IntWalk.i64_in _ ⟨by omega, by omega⟩]; omega
  clear hn hle
  go_wp2_with fail
  go_quiet (fail)
  go_wp2
  go_ret2
  exact ⟨rfl, belowD B5.out _⟩
end Go.Proofs.Yteaghcgekaoimaa
