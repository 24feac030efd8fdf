/- A message as it comes. -/
import Derived.Test.YtfdiclamjgldnaaLnFind
import Derived.Laws.BitsAllLaws
namespace Go.Proofs.Ytfdiclamjgldnaa
open Go Go.RowKit Go.Conc
set_option linter.unusedVariables false

/-- which byte is turned; what comes -/
def turnAt (x : Mg) : Nat := (max x.at_ 0).toNat % x.whole.length
def seen (x : Mg) : List UInt8 := if x.whole = [] then [] else x.whole.set (turnAt x) (x.whole.getD (turnAt x) 0 ^^^ x.by_)
theorem seen_len (x : Mg) : (seen x).length = x.whole.length := by
  unfold seen
  split
  · next h => rw [h]
  · simp
theorem seen_some (x : Mg) (h : x.whole ≠ []) : seen x = x.whole.set (turnAt x) (x.whole.getD (turnAt x) 0 ^^^ x.by_) := by unfold seen; rw [if_neg h]
theorem seen_none (x : Mg) (h : x.whole = []) : seen x = [] := by unfold seen; rw [if_pos h]
section
variable {P : Program} {o : Oper} {a : Act}
theorem exec_maxI (x y : Operand) (tys : Array TypeId) (ho : o.op = .call { callee := .builtin .max, args := #[x, y], argTypes := tys }) (X Y R : Int) (hR : max X Y = R) (hx : a.eval x = .int .i64 X) (hy : a.eval y = .int .i64 Y) (w : World) :
    (execOp a.eval o).run P w = .ok (.value (.int .i64 R)) w := by
  have e : (#[x, y] : Array Operand).map a.eval = #[.int .i64 X, .int .i64 Y] := by simp only [List.map_toArray, List.map_cons, List.map_nil, hx, hy]
  have hm : (Builtin.max_ tys o.type #[.int .i64 X, .int .i64 Y]).run P w = .ok (.int .i64 R) w := by
    rw [run_max_int2, show (if X < Y then Y else X) = R by split <;> omega]
  unfold execOp
  simp only [ho]
  unfold resolve
  simp only [e]
  simp only [Sem.run_bind, Sem.run_pure, Result.andThen_ok, invoke]
  unfold builtin
  simp only [hm, Sem.run_bind, Sem.run_pure, Result.andThen_ok]
theorem exec_remI (t yt : TypeId) (x y : Operand) (ho : o.op = .binOp .rem t x y yt) (X Y : Nat) (hX : X ≤ 9223372036854775807) (hY : Y ≤ 9223372036854775807) (hY0 : 0 < Y) (hx : a.eval x = .int .i64 (X : Int)) (hy : a.eval y = .int .i64 (Y : Int)) (w : World) :
    (execOp a.eval o).run P w = .ok (.value (.int .i64 ((X % Y : Nat) : Int))) w := by
  have h0 : ¬ (Y : Int) = 0 := by omega
  have h4 : ¬ Y = 0 := by omega
  have h1 : (X : Int).tmod (Y : Int) = ((X % Y : Nat) : Int) := by rw [Int.tmod_eq_emod_of_nonneg (by omega)]; simp
  have h2 := Nat.mod_lt X hY0
  have h3 : IntKind.i64.wrap ((X % Y : Nat) : Int) = ((X % Y : Nat) : Int) := by rw [IntKind.wrap_i64]; omega
  unfold execOp
  simp only [ho, hx, hy]
  go_simp
theorem exec_xor8 (t yt : TypeId) (x y : Operand) (ho : o.op = .binOp .xor t x y yt) (X Y : UInt8) (hx : a.eval x = .int .u8 (X.toNat : Int)) (hy : a.eval y = .int .u8 (Y.toNat : Int)) (w : World) :
    (execOp a.eval o).run P w = .ok (.value (.int .u8 ((X ^^^ Y).toNat : Int))) w := by
  rw [UInt8.toNat_xor, ← u8_xor_nat X.toNat Y.toNat X.toNat_lt Y.toNat_lt]
  unfold execOp
  simp only [ho, hx, hy]
  rfl
theorem exec_storeI {w : World} (t : TypeId) (x y : Operand) (ho : o.op = .store t x y) (hsz : ∀ w : World, (sizeOf t).run P w = .ok 1 w) (p : Addr) (k : IntKind) (v : Int) (old : Value) (hx : a.eval x = .pointer (some p)) (hy : a.eval y = .int k v)
    (hc : w.cell? p = some old) (hf : w.frozen? p = false) : (execOp a.eval o).run P w = .ok .skip (w.setCell p (.int k v)) := by
  unfold execOp
  simp only [ho, hx, hy]
  have hs := hsz w
  go_simp
end
theorem size5 (w : World) : (sizeOf 5).run Try.prog w = .ok 1 w := by kernel_rfl
theorem len5 (q : Option Addr) (n c : Nat) (ty : TypeId) (w : World) : (Builtin.len_ #[30] ty #[.slice q n c]).run Try.prog w = .ok (.int .i64 (n : Int)) w := by kernel_rfl
theorem bytes_is (B m : Nat) (x : Mg) (w : World) (h : MsgAt w B m x) : Calls Try.prog 33 #[.pointer (some ⟨m, 0, none⟩)] w (RetOwn w 5 (seen x)) := by
  obtain ⟨hB, v, ho, hrow, hl, ha1, ha2⟩ := h
  obtain ⟨_, p, c, rfl, _, _, hlies, hnone⟩ := own_lies hrow
  have CL := Lib.hid (sclone_any p c x.whole w hlies (fun e => (hnone e).1) (by omega))
  have c0 : w.cell? ⟨m, 0, none⟩ = some (.slice p x.whole.length c) := by rw [cell_of_row w m 0 _ _ _ ho]; rfl
  have HO := Lib.hid ho
  have hmlt : m < w.heap.size := (Array.getElem?_eq_some_iff.1 ho).1
  clear hrow hlies hnone ho
  by_cases h0 : x.whole = []
  · have hs : seen x = [] := seen_none x h0
    have hl0 : x.whole.length = 0 := by rw [h0]; rfl
    rw [hl0] at c0 CL
    rw [h0] at CL
    rw [hs]
    clear hs h0
    go_enter Try.func33, Try.ntmps33
    go_wp2_with fail
    refine CL.out.mono ?_
    rintro e w1 ⟨v1, rfl, ho1, hb1⟩
    have R : Hid (RetOwn w 5 [] (.returned v1) w1) := ⟨v1, rfl, ho1, hb1⟩
    obtain ⟨_, q, cq, rfl, _⟩ := own_lies ho1
    clear ho1 hb1 CL
    go_wp2
    go_ret
    exact R.out
  · have hpos : 0 < x.whole.length := List.length_pos_iff.2 h0
    have hti : turnAt x < x.whole.length := Nat.mod_lt _ hpos
    have hs : seen x = x.whole.set (turnAt x) (x.whole.getD (turnAt x) 0 ^^^ x.by_) := seen_some x h0
    obtain ⟨M, hM⟩ : ∃ M : Nat, max x.at_ 0 = (M : Int) := ⟨(max x.at_ 0).toNat, by omega⟩
    have hM2 : M ≤ 9223372036854775807 := by omega
    have htm : turnAt x = M % x.whole.length := by unfold turnAt; rw [hM]; simp
    have hposI : (0 : Int) < x.whole.length := by omega
    have HS := Lib.hid hs
    have R : Hid (∀ (w1 : World) (g cap : Nat), w1.ownsRow w.heap.size 5 1 (.slice (some ⟨g, 0, none⟩) x.whole.length cap) x.whole.length (bys x.whole) → Below w.heap.size w w1 → w.heap.size ≤ g →
        RetOwn w 5 (seen x) (.returned (.slice (some ⟨g, 0, none⟩) x.whole.length cap)) (w1.drew.setCell ⟨g, turnAt x, none⟩ (.int .u8 ((x.whole.getD (turnAt x) 0 ^^^ x.by_).toNat : Int)))) := by
      intro w1 g cap ho1 hb1 hg1
      have ho2 : w1.drew.ownsRow w.heap.size 5 1 (.slice (some ⟨g, 0, none⟩) x.whole.length cap) x.whole.length (bys x.whole) := ho1
      refine RetOwn.of_own (n := x.whole.length) ?_ rfl (hb1.drew.setCell (p := ⟨g, turnAt x, none⟩) hg1 _)
      rw [hs, ← bys_set]
      exact (ho2.stored (turnAt x) _).1
    rw [htm] at hti R
    generalize hT : M % x.whole.length = T at hti R
    have htm2 := Lib.hid htm
    clear htm hs h0
    have G : Hid (∀ (w1 : World) (g cap : Nat), w1.ownsRow w.heap.size 5 1 (.slice (some ⟨g, 0, none⟩) x.whole.length cap) x.whole.length (bys x.whole) → w1.cell? ⟨g, T, none⟩ = some (.int .u8 ((x.whole.getD T 0).toNat : Int)) ∧ w1.frozen? ⟨g, T, none⟩ = false) := by
      intro w1 g cap ho1
      exact ⟨by rw [ho1.cellAt T (by omega), bys_get x.whole T hti], ho1.frozenAt T⟩
    go_enter Try.func33, Try.ntmps33
    go_wp2_with fail
    refine CL.out.mono ?_
    rintro e w1 ⟨v1, rfl, ho1, hb1⟩
    obtain ⟨g, cap, rfl, hg1, _⟩ := ownV_some ho1 hpos
    have hO1 : w1.heap[m]? = some (mgObj (.slice p x.whole.length c) x) := (hb1.block m hmlt).trans HO.out
    have c1 : w1.drew.cell? ⟨m, 1, none⟩ = some (.int .i64 x.at_) := by
      show w1.cell? _ = _
      rw [cell_of_row w1 m 1 _ _ _ hO1]; rfl
    have c2 : w1.drew.cell? ⟨m, 2, none⟩ = some (.int .u8 (x.by_.toNat : Int)) := by
      show w1.cell? _ = _
      rw [cell_of_row w1 m 2 _ _ _ hO1]; rfl
    obtain ⟨c3, f3⟩ := G.out w1 g cap ho1
    have c3 : w1.drew.cell? ⟨g, T, none⟩ = some (.int .u8 ((x.whole.getD T 0).toNat : Int)) := c3
    have f3 : w1.drew.frozen? ⟨g, T, none⟩ = false := f3
    have E := Lib.hid (R.out w1 g cap ho1 hb1 hg1)
    clear ho1 hb1 CL c0 R
    generalize x.whole.getD T 0 = u at E c3
    generalize hn : x.whole.length = n at *
    generalize hat : x.at_ = at0 at *
    generalize x.by_ = by0 at *
    have hmg : m ≠ g := by omega
    go_wp2
    refine rg_calm (m := 18) (S := fun w' => w'.cell? ⟨m, 1, none⟩ = some (.int .i64 at0) ∧ w'.cell? ⟨m, 2, none⟩ = some (.int .u8 (by0.toNat : Int))) (by kernel_rfl) rfl ?_
    refine rgd_pure 0 (some 12) rfl rfl (.slice (some ⟨g, 0, none⟩) n cap) (by kernel_rfl) (by kernel_rfl) (by kernel_rfl) (fun _ _ _ _ h => h) (by kernel_rfl) (fun _ => by kernel_rfl) ⟨c1, c2⟩ ?_
    refine rgd_pure 1 (some 13) rfl rfl (.pointer (some ⟨m, 0, none⟩)) (by kernel_rfl) (by kernel_rfl) (by kernel_rfl) (fun _ _ _ _ h => h) (by kernel_rfl) (fun _ => by kernel_rfl) ⟨c1, c2⟩ ?_
    refine rgd_pure 2 (some 14) rfl rfl (.pointer (some ⟨m, 0, none⟩)) (by kernel_rfl) (by kernel_rfl) (by kernel_rfl) (fun _ _ _ _ h => h) (by kernel_rfl) (fun _ => by kernel_rfl) ⟨c1, c2⟩ ?_
    refine rgd_pure 3 (some 15) rfl rfl (.pointer (some ⟨m, 1, none⟩)) (by kernel_rfl) (by kernel_rfl) (by kernel_rfl) (fun _ _ _ _ h => h) (by kernel_rfl) (fun _ => by kernel_rfl) ⟨c1, c2⟩ ?_
    refine rgd_load 4 (some 16) rfl rfl (by kernel_rfl) (by kernel_rfl) (by kernel_rfl) (fun _ _ _ _ h => h) (by kernel_rfl) _ _ rfl Try.underlying3 rfl ⟨m, 1, none⟩ (.int .i64 at0) (by kernel_rfl) (fun _ h => h.1) ⟨c1, c2⟩ ?_
    refine rgd_pure 5 (some 17) rfl rfl (.int .i64 (M : Int)) (by kernel_rfl) (by kernel_rfl) (by kernel_rfl) (fun _ _ _ _ h => h) (by kernel_rfl) (exec_maxI _ _ _ rfl at0 0 (M : Int) hM (by kernel_rfl) (by kernel_rfl)) ⟨c1, c2⟩ ?_
    refine rgd_pure 6 (some 18) rfl rfl (.slice (some ⟨g, 0, none⟩) n cap) (by kernel_rfl) (by kernel_rfl) (by kernel_rfl) (fun _ _ _ _ h => h) (by kernel_rfl) (fun _ => by kernel_rfl) ⟨c1, c2⟩ ?_
    refine rgd_pure 7 (some 19) rfl rfl (.int .i64 (n : Int)) (by kernel_rfl) (by kernel_rfl) (by kernel_rfl) (fun _ _ _ _ h => h) (by kernel_rfl) (fun _ => by kernel_rfl) ⟨c1, c2⟩ ?_
    refine rgd_pure 8 (some 20) rfl rfl (.int .i64 ((M % n : Nat) : Int)) (by kernel_rfl) (by kernel_rfl) (by kernel_rfl) (fun _ _ _ _ h => h) (by kernel_rfl) (exec_remI _ _ _ _ rfl M n hM2 (by omega) hpos (by kernel_rfl) (by kernel_rfl)) ⟨c1, c2⟩ ?_
    rw [hT]
    refine rgd_index 9 (some 21) rfl rfl (by kernel_rfl) (by kernel_rfl) (by kernel_rfl) (fun _ _ _ _ h => h) (by kernel_rfl) 30 _ _ rfl (by kernel_rfl) (fun w => by kernel_rfl) g 0 n cap T (by kernel_rfl) (by kernel_rfl) hti ⟨c1, c2⟩ ?_
    rw [Nat.zero_add]
    refine rgd_pure 11 (some 23) rfl rfl (.pointer (some ⟨m, 0, none⟩)) (by kernel_rfl) (by kernel_rfl) (by kernel_rfl) (fun _ _ _ _ h => h) (by kernel_rfl) (fun _ => by kernel_rfl) ⟨c1, c2⟩ ?_
    refine rgd_pure 12 (some 24) rfl rfl (.pointer (some ⟨m, 0, none⟩)) (by kernel_rfl) (by kernel_rfl) (by kernel_rfl) (fun _ _ _ _ h => h) (by kernel_rfl) (fun _ => by kernel_rfl) ⟨c1, c2⟩ ?_
    refine rgd_pure 13 (some 25) rfl rfl (.pointer (some ⟨m, 2, none⟩)) (by kernel_rfl) (by kernel_rfl) (by kernel_rfl) (fun _ _ _ _ h => h) (by kernel_rfl) (fun _ => by kernel_rfl) ⟨c1, c2⟩ ?_
    refine rgd_load 14 (some 26) rfl rfl (by kernel_rfl) (by kernel_rfl) (by kernel_rfl) (fun _ _ _ _ h => h) (by kernel_rfl) _ _ rfl Try.underlying5 rfl ⟨m, 2, none⟩ (.int .u8 (by0.toNat : Int)) (by kernel_rfl) (fun _ h => h.2) ⟨c1, c2⟩ ?_
    refine rgd_run 10 (some 22) (by kernel_rfl) rfl rfl (by kernel_rfl) (.int .u8 (u.toNat : Int)) w1.drew (exec_load1 _ _ rfl Try.underlying5 rfl _ _ (by kernel_rfl) c3) ⟨c1, c2⟩ ?_
    refine rgd_pure 15 (some 27) rfl rfl (.int .u8 ((u ^^^ by0).toNat : Int)) (by kernel_rfl) (by kernel_rfl) (by kernel_rfl) (fun _ _ _ _ h => h) (by kernel_rfl) (exec_xor8 _ _ _ _ rfl u by0 (by kernel_rfl) (by kernel_rfl)) ⟨c1, c2⟩ ?_
    refine rgd_index 16 (some 28) rfl rfl (by kernel_rfl) (by kernel_rfl) (by kernel_rfl) (fun _ _ _ _ h => h) (by kernel_rfl) 30 _ _ rfl (by kernel_rfl) (fun w => by kernel_rfl) g 0 n cap T (by kernel_rfl) (by kernel_rfl) hti ⟨c1, c2⟩ ?_
    rw [Nat.zero_add]
    refine rgd_do 17 none (by kernel_rfl) rfl rfl (by kernel_rfl) _ (exec_storeI _ _ _ rfl size5 ⟨g, T, none⟩ .u8 ((u ^^^ by0).toNat : Int) _ (by kernel_rfl) (by kernel_rfl) c3 f3) ⟨?_, ?_⟩ ?_
    · exact (World.cell?_of_block (w := w1.drew) (Below.heap_setCell w1.drew ⟨g, T, none⟩ _ m hmg)).trans c1
    · exact (World.cell?_of_block (w := w1.drew) (Below.heap_setCell w1.drew ⟨g, T, none⟩ _ m hmg)).trans c2
    rename_i Q1 hK1
    refine wpAnyH_done (by kernel_rfl) (hK1 _ _ ?_) _
    simp only [Act.put, List.setIfInBounds_toArray, List.set_cons_zero, List.set_cons_succ]
    go_wp2
    go_ret
    exact E.out

end Go.Proofs.Ytfdiclamjgldnaa
