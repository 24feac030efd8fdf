/- sorted's heaps: Push. -/
import Derived.Test.YtiadljcfcncbkaaHpRise
import Derived.Deep.DeepCutAuto
namespace Go.Proofs.Ytiadljcfcncbkaa
open Go Go.RowKit Hp
set_option linter.unusedVariables false

theorem isEntry : P2 Try.prog 72 89 16 := ⟨Try.underlying72, by kernel_rfl⟩
/-- a heap at H: its order, its entries, its turn -/
def HeapAt (B H : Nat) (F : FuncId) (caps : Array Value) (l : List E) (turn : Nat) (w : World) : Prop :=
  ∃ v, w.heap[H]? = some (Obj.cells #[.func (.func F) #[] caps, v, .int .i64 (turn : Int)] 74 (0, 0)) ∧ w.ownsRow B 89 2 v l.length (pc (ecs l))
/-- a condition that looks below B alone -/
def Low (B : Nat) (S : World → Prop) : Prop := ∀ w w', S w → Below B w w' → S w'
set_option maxRecDepth 100000 in
theorem run_pushE (w : World) (ty : TypeId) (B : Nat) (l : List E) (v : Value) (hown : w.ownsRow B 89 2 v l.length (pc (ecs l))) (e : E) (hlen : l.length ≤ 1000000) (hB : B ≤ w.heap.size) :
    ∃ g cap w', (Builtin.append_ #[72, 72] ty #[v, .slice (some ⟨w.heap.size, 0, none⟩) 1 1]).run Try.prog (w.alloc (.cells #[.int .i64 e.1, .int .i64 e.2] 89)) = .ok (.slice (some ⟨g, 0, none⟩) (l ++ [e]).length cap) w' ∧
      ERow w' B g cap (l ++ [e]) ∧ B ≤ g ∧ Below B w w' ∧ (∀ k, k < w.heap.size → some k ≠ v.ownBlock → w'.heap[k]? = w.heap[k]?) := by
  obtain ⟨i0, z, hi, hz0, hz1, hz2, hz3⟩ := isEntry.parts
  obtain ⟨v', w', hrun, r1, r2, _⟩ := run_append_own (P := Try.prog) (w.alloc (.cells #[.int .i64 e.1, .int .i64 e.2] 89)) B 72 ty 89 i0 z 2 16 isEntry.slice hi hz0 hz1 hz2 hz3 (by decide) v l.length (pc (ecs l)) (hown.alloc _) ⟨w.heap.size, 0, none⟩ 1 1 (pc [(.int .i64 e.1, .int .i64 e.2)]) rfl (pair_cell w _ _ _) (pc_one _ (by simp [Value.oneCell'])) (by unfold maxLen; omega) (by omega) (by simp; omega)
  have he : pc (ecs l) ++ pc [(.int .i64 e.1, .int .i64 e.2)] = pc (ecs (l ++ [e])) := by rw [← pc_append]; congr 1; simp [ecs]
  rw [he] at r1
  have hl : (l ++ [e]).length = l.length + 1 := by simp
  have r3 := r1
  rcases r1.2 with ⟨_, h⟩ | ⟨g, cap, cur, rfl, q1, q2⟩
  · omega
  · refine ⟨g, cap, w', by rw [hl]; exact hrun, by unfold ERow; rw [hl]; exact r3, q1, ((Below.refl B w).alloc hB _).grown r2 (by simp; omega) (fun k hk => (hown.lt k hk).1), fun k hk hne => (r2.block k (by simp; omega) hne).trans (Below.heap_alloc w _ k hk)⟩
/-- no block of another type turns but H -/
def Apart (H : Nat) (w w' : World) : Prop := ∀ (k : Nat) (cs : Array Value) (t : TypeId) (m : Nat × Nat), w.heap[k]? = some (Obj.cells cs t m) → t ≠ 89 → k ≠ H → w'.heap[k]? = some (Obj.cells cs t m)
theorem Apart.trans {H : Nat} {a b c : World} (h : Apart H a b) (k : Apart H b c) : Apart H a c := fun i cs t m hi ht hn => k i cs t m (h i cs t m hi ht hn) ht hn
theorem Apart.set (w : World) (H j : Nat) (v : Value) : Apart H w (w.setCell ⟨H, j, none⟩ v) := fun k cs t m hk _ hn => (Below.heap_setCell _ _ _ k (fun e => hn e)).trans hk
theorem Apart.grown {w w' : World} {B g cap H : Nat} {l : List E} (h : ERow w B g cap l) (hg : w.grownBy w' (some g)) : Apart H w w' := fun k cs t m hk ht _ =>
  (hg.block k (Array.getElem?_eq_some_iff.1 hk).1 (own_ne (show w.ownsRow B 89 2 _ _ _ from h) hk ht)).trans hk
theorem riseF_len (lt : E → E → Bool) : ∀ f l k, (riseF lt f l k).length = l.length := by
  intro f
  induction f with
  | zero => intro l k; rfl
  | succ f ih =>
    intro l k
    rw [riseF]
    split
    · rfl
    · split
      · rw [ih, sw_len]
      · rfl
theorem rise_len (lt : E → E → Bool) (l : List E) : (rise lt l).length = l.length := riseF_len lt _ _ _
theorem set_grown (w : World) (H j : Nat) (v : Value) : w.grownBy (w.setCell ⟨H, j, none⟩ v) (some H) := ⟨rfl, rfl, rfl, by simp, fun k _ hk => Below.heap_setCell _ _ _ k (fun e => hk (by rw [e]))⟩
theorem set_cellsH {w : World} {g : Nat} {cs : Array Value} {t : TypeId} {m : Nat × Nat} (h : w.heap[g]? = some (.cells cs t m)) (j : Nat) (v : Value) : (w.setCell ⟨g, j, none⟩ v).heap[g]? = some (.cells (cs.setIfInBounds j v) t m) := by
  obtain ⟨hlt, hk⟩ := Array.getElem?_eq_some_iff.1 h
  show (w.heap.modify g _)[g]? = _
  rw [Array.getElem?_eq_getElem (by rw [Array.size_modify]; exact hlt), Array.getElem_modify_self, hk]
  rfl
theorem exec_storeSl {P : Program} {o : Oper} {a : Act} {w : World} (t : TypeId) (x y : Operand) (ho : o.op = .store t x y) (hsz : ∀ w : World, (sizeOf t).run P w = .ok 1 w) (p : Addr) (q : Option Addr) (n c : Nat) (old : Value) (hx : a.eval x = .pointer (some p)) (hy : a.eval y = .slice q n c)
    (hc : w.cell? p = some old) (hf : w.frozen? p = false) : (execOp a.eval o).run P w = .ok .skip (w.setCell p (.slice q n c)) := by
  unfold execOp
  simp only [ho, hx, hy]
  have hs := hsz w
  go_simp
theorem exec_push {P : Program} {o : Oper} {a : Act} {w w' : World} {t : TypeId} (x y : Operand) (ho : o.op = .call { callee := .builtin .append, args := #[x, y], argTypes := #[t, t] }) (u v r : Value) (hx : a.eval x = u) (hy : a.eval y = v)
    (h : (Builtin.append_ #[t, t] o.type #[u, v]).run P w = .ok r w') : (execOp a.eval o).run P w = .ok (.value r) w' := by
  simp [execOp, ho, resolve, invoke, builtin, hx, hy, h, Result.andThen]
set_option maxHeartbeats 4000000 in
set_option maxRecDepth 100000 in
theorem push_is (B H : Nat) (F : FuncId) (caps : Array Value) (lt : E → E → Bool) (dom : E → Prop) (S : World → Prop) (T : Tell F caps lt dom S) (hL : Low B S) (l : List E) (turn : Nat) (x : Int) (w : World) (hh : HeapAt B H F caps l turn w) (hB : B ≤ H) (hd : ∀ e ∈ l, dom e) (hx : dom (x, (turn : Int))) (hs : S w) (hlen : l.length < 1000000) (ht : turn ≤ 1000000) :
    Calls Try.prog 28 #[.pointer (some ⟨H, 0, none⟩), .int .i64 x] w fun e w' => e = .returned (.tuple #[]) ∧ HeapAt B H F caps (rise lt (l ++ [(x, (turn : Int))])) (turn + 1) w' ∧ Below B w w' ∧ Apart H w w' := by
  obtain ⟨v, hv, hown⟩ := hh
  have HV := Lib.hid hv; have OW := Lib.hid hown; have TT := Lib.hid T; have LL := Lib.hid hL; have SW := Lib.hid hs; have DM := Lib.hid hd; have DX := Lib.hid hx
  have c0 := (cell_of_row w H 0 _ _ _ hv).trans (show _ = some (Value.func (.func F) #[] caps) from rfl)
  have hHw := (Array.getElem?_eq_some_iff.1 hv).1
  have hne : ∀ w : World, (binOp .eql 71 (.func (.func F) #[] caps) .nilFunc).run Try.prog w = .ok (.bool false) w := fun w => by kernel_rfl
  clear hv hown T hL hs hd hx
  go_enter Try.func28, Try.ntmps28
  go_wp2_with fail
  rename_i K hK
  obtain ⟨g, cap, w3, hrun, r3, hBg, b3, k3⟩ := run_pushE w.drew 72 B l v OW.out (x, (turn : Int)) (by omega) (by show B ≤ w.heap.size; omega)
  have hne3 : some H ≠ v.ownBlock := own_ne OW.out HV.out (by decide)
  have hv3 := (k3 H hHw hne3).trans (show w.drew.heap[H]? = _ from HV.out)
  have hc3 := (cell_of_row w3 H 1 _ _ _ hv3).trans (show _ = some v from rfl)
  have hf3 := frozen_of_row w3 H 1 _ _ hv3
  have hS0 : w.drew.cell? ⟨H, 2, none⟩ = some (.int .i64 (turn : Int)) := (cell_of_row w.drew H 2 _ _ _ HV.out).trans rfl
  have hS3 : w3.cell? ⟨H, 2, none⟩ = some (.int .i64 (turn : Int)) := (cell_of_row w3 H 2 _ _ _ hv3).trans rfl
  have hv4 : (w3.setCell ⟨H, 1, none⟩ (.slice (some ⟨g, 0, none⟩) (l ++ [(x, (turn : Int))]).length cap)).heap[H]? = some (Obj.cells #[.func (.func F) #[] caps, .slice (some ⟨g, 0, none⟩) (l ++ [(x, (turn : Int))]).length cap, .int .i64 (turn : Int)] 74 (0, 0)) := by
    obtain ⟨hlt, hk⟩ := Array.getElem?_eq_some_iff.1 hv3
    show (w3.heap.modify H _)[H]? = _
    rw [Array.getElem?_eq_getElem (by rw [Array.size_modify]; exact hlt), Array.getElem_modify_self, hk]
    rfl
  have hS4 : (w3.setCell ⟨H, 1, none⟩ (.slice (some ⟨g, 0, none⟩) (l ++ [(x, (turn : Int))]).length cap)).cell? ⟨H, 2, none⟩ = some (.int .i64 (turn : Int)) := (cell_of_row _ H 2 _ _ _ hv4).trans rfl
  have hSA : (w.drew.alloc (.cells #[.int .i64 x, .int .i64 (turn : Int)] 89)).cell? ⟨H, 2, none⟩ = some (.int .i64 (turn : Int)) := cell_alloc _ hS0
  have hV0 : w.drew.cell? ⟨H, 1, none⟩ = some v := (cell_of_row w.drew H 1 _ _ _ HV.out).trans rfl
  have hVA : (w.drew.alloc (.cells #[.int .i64 x, .int .i64 (turn : Int)] 89)).cell? ⟨H, 1, none⟩ = some v := cell_alloc _ hV0
  have KF : K { tmps := #[.pointer (some ⟨H, 0, none⟩), .int .i64 x, undef, undef, .pointer (some ⟨H, 0, none⟩), .bool false, .bool false, .pointer (some ⟨H, 0, none⟩), .pointer (some ⟨H, 0, none⟩), .pointer (some ⟨H, 0, none⟩), .func (.func F) #[] caps, .bool false, .bool false, .pointer (some ⟨H, 0, none⟩), .pointer (some ⟨H, 0, none⟩), .pointer (some ⟨H, 0, none⟩), .pointer (some ⟨H, 1, none⟩), v, .int .i64 x, .pointer (some ⟨H, 0, none⟩), .pointer (some ⟨H, 0, none⟩), .pointer (some ⟨H, 2, none⟩), .int .i64 (turn : Int), ev (x, (turn : Int)), .slice (some ⟨w.heap.size, 0, none⟩) 1 1, .slice (some ⟨g, 0, none⟩) (l ++ [(x, (turn : Int))]).length cap, .pointer (some ⟨H, 0, none⟩), .pointer (some ⟨H, 1, none⟩), undef, undef, undef, undef, undef, undef, undef, undef, undef, undef, undef, undef, undef, undef, undef, undef], defers := [] } (w3.setCell ⟨H, 1, none⟩ (.slice (some ⟨g, 0, none⟩) (l ++ [(x, (turn : Int))]).length cap)) := by
    refine hK _ _ ?_
    clear hK
    have hgH : g ≠ H := fun e => own_ne (show w3.ownsRow B 89 2 _ _ _ from r3) hv3 (by decide) (by simp only [Value.ownBlock]; rw [e])
    have r4 : ERow (w3.setCell ⟨H, 1, none⟩ (.slice (some ⟨g, 0, none⟩) (l ++ [(x, (turn : Int))]).length cap)) B g cap (l ++ [(x, (turn : Int))]) := World.ownsRow.kept r3 (set_grown w3 H 1 _) (.inr (by simp only [Value.ownBlock]; intro e; injection e with e; exact hgH e))
    have b4 : Below B w (w3.setCell ⟨H, 1, none⟩ (.slice (some ⟨g, 0, none⟩) (l ++ [(x, (turn : Int))]).length cap)) := (show Below B w w3 from ⟨b3.os, b3.tape, b3.output, b3.size, b3.block⟩).setCell (p := ⟨H, 1, none⟩) hB _
    have a4 : Apart H w (w3.setCell ⟨H, 1, none⟩ (.slice (some ⟨g, 0, none⟩) (l ++ [(x, (turn : Int))]).length cap)) := Apart.trans (b := w3) (fun k cs t m hk ht _ => (k3 k (Array.getElem?_eq_some_iff.1 hk).1 (own_ne OW.out hk ht)).trans hk) (Apart.set w3 H 1 _)
    clear hrun hc3 hf3 hS0 hS3 hS4 hSA hV0 hVA k3 b3 r3 hv3 hne3 c0
    generalize w3.setCell ⟨H, 1, none⟩ (.slice (some ⟨g, 0, none⟩) (l ++ [(x, (turn : Int))]).length cap) = w4 at hv4 r4 b4 a4 ⊢
    have c2 := (cell_of_row w4 H 2 _ _ _ hv4).trans (show _ = some (Value.int .i64 (turn : Int)) from rfl)
    have f2 := frozen_of_row w4 H 2 _ _ hv4
    have V5 := set_cellsH hv4 2 (.int .i64 ((turn : Int) + 1))
    have r5 : ERow (w4.setCell ⟨H, 2, none⟩ (.int .i64 ((turn : Int) + 1))) B g cap (l ++ [(x, (turn : Int))]) := World.ownsRow.kept r4 (set_grown w4 H 2 _) (.inr (by simp only [Value.ownBlock]; intro e; injection e with e; exact hgH e))
    have b5 : Below B w (w4.setCell ⟨H, 2, none⟩ (.int .i64 ((turn : Int) + 1))) := b4.setCell (p := ⟨H, 2, none⟩) hB _
    simp only [List.setIfInBounds_toArray, List.set_cons_succ, List.set_cons_zero] at V5
    have V5h := Lib.hid V5; have R5 := Lib.hid r5; have B5 := Lib.hid b5; have A5 := Lib.hid (a4.trans (Apart.set w4 H 2 (.int .i64 ((turn : Int) + 1))))
    clear hv4 r4 b4 V5 r5 b5 a4
    go_wp2_with fail
    rename_i Q3
    clear c2 f2
    generalize w4.setCell ⟨H, 2, none⟩ (.int .i64 ((turn : Int) + 1)) = w5 at V5h R5 B5 A5 ⊢
    have V5 : w5.drew.heap[H]? = _ := V5h.out
    refine rg_last (by kernel_rfl) rfl (S := fun V => V.heap[H]? = some (Obj.cells #[.func (.func F) #[] caps, .slice (some ⟨g, 0, none⟩) (l ++ [(x, (turn : Int))]).length cap, .int .i64 ((turn : Int) + 1)] 74 (0, 0))) ?_
    refine rgd_pure 0 (some 35) rfl rfl (.pointer (some ⟨H, 0, none⟩)) (by kernel_rfl) (by kernel_rfl) (by kernel_rfl) (fun _ _ _ _ h => h) (by kernel_rfl) (exec_is _ (.inl rfl) _ (by kernel_rfl)) V5 ?_
    refine rgd_pure 1 (some 36) rfl rfl (.pointer (some ⟨H, 0, none⟩)) (by kernel_rfl) (by kernel_rfl) (by kernel_rfl) (fun _ _ _ _ h => h) (by kernel_rfl) (fun w => by kernel_rfl) V5 ?_
    refine rgd_pure 2 (some 37) rfl rfl (.pointer (some ⟨H, 1, none⟩)) (by kernel_rfl) (by kernel_rfl) (by kernel_rfl) (fun _ _ _ _ h => h) (by kernel_rfl) (fun w => by kernel_rfl) V5 ?_
    refine rgd_load 3 (some 38) rfl rfl (by kernel_rfl) (by kernel_rfl) (by kernel_rfl) (fun _ _ _ _ h => h) (by kernel_rfl) _ _ rfl Try.underlying72 rfl ⟨H, 1, none⟩ (.slice (some ⟨g, 0, none⟩) (l ++ [(x, (turn : Int))]).length cap) (by kernel_rfl) (fun V h => (cell_of_row V H 1 _ _ _ h).trans rfl) V5 ?_
    refine rgd_pure 4 (some 39) rfl rfl (.pointer (some ⟨H, 0, none⟩)) (by kernel_rfl) (by kernel_rfl) (by kernel_rfl) (fun _ _ _ _ h => h) (by kernel_rfl) (exec_is _ (.inl rfl) _ (by kernel_rfl)) V5 ?_
    refine rgd_pure 5 (some 40) rfl rfl (.pointer (some ⟨H, 0, none⟩)) (by kernel_rfl) (by kernel_rfl) (by kernel_rfl) (fun _ _ _ _ h => h) (by kernel_rfl) (fun w => by kernel_rfl) V5 ?_
    refine rgd_pure 6 (some 41) rfl rfl (.pointer (some ⟨H, 0, none⟩)) (by kernel_rfl) (by kernel_rfl) (by kernel_rfl) (fun _ _ _ _ h => h) (by kernel_rfl) (fun w => by kernel_rfl) V5 ?_
    refine rgd_load 7 (some 42) rfl rfl (by kernel_rfl) (by kernel_rfl) (by kernel_rfl) (fun _ _ _ _ h => h) (by kernel_rfl) _ _ rfl Try.underlying71 rfl ⟨H, 0, none⟩ (.func (.func F) #[] caps) (by kernel_rfl) (fun V h => (cell_of_row V H 0 _ _ _ h).trans rfl) V5 ?_
    have hBs : B ≤ w5.drew.heap.size := by have := (Array.getElem?_eq_some_iff.1 V5).1; omega
    have TS : Tell F caps lt dom (fun V => S V ∧ B ≤ V.heap.size) := ⟨fun a b V h1 h2 h3 => TT.out.tell a b V h1 h2 h3.1, TT.out.enter⟩
    have FS : Free g (fun V => S V ∧ B ≤ V.heap.size) := fun V V' h hg => ⟨LL.out _ _ h.1 ⟨hg.os, hg.tape, hg.output, hg.size, fun k hk => hg.block k (by have := h.2; omega) (fun e => by injection e with e; omega)⟩, Nat.le_trans h.2 hg.size⟩
    have hdm : ∀ e ∈ l ++ [(x, (turn : Int))], dom e := by
      intro e he
      rcases List.mem_append.1 he with he | he
      · exact DM.out e he
      · rw [List.mem_singleton.1 he]; exact DX.out
    refine rgd_call 8 (some 43) (by kernel_rfl) rfl rfl (by kernel_rfl) 54 #[.slice (some ⟨g, 0, none⟩) (l ++ [(x, (turn : Int))]).length cap, .func (.func F) #[] caps] (by kernel_rfl) (rise_is B g cap (l ++ [(x, (turn : Int))]) F caps lt dom _ TS FS w5.drew R5.out hdm ⟨LL.out _ _ SW.out (show Below B w w5.drew from ⟨B5.out.os, B5.out.tape, B5.out.output, B5.out.size, B5.out.block⟩), hBs⟩ (by simp) (by rw [List.length_append, List.length_singleton]; omega)) ?_
    rintro e w6 ⟨rfl, r6, g6⟩
    have V6 := (g6.block H (Array.getElem?_eq_some_iff.1 V5).1 (fun e => by injection e with e; exact hgH e.symm)).trans V5
    refine ⟨_, rfl, V6, ?_⟩
    have B6 : Below B w w6 := (show Below B w w5.drew from ⟨B5.out.os, B5.out.tape, B5.out.output, B5.out.size, B5.out.block⟩).trans ⟨g6.os, g6.tape, g6.output, g6.size, fun k hk => g6.block k (by omega) (fun e => by injection e with e; omega)⟩
    have KE : Q3 .normal { tmps := #[.pointer (some ⟨H, 0, none⟩), .int .i64 x, undef, undef, .pointer (some ⟨H, 0, none⟩), .bool false, .bool false, .pointer (some ⟨H, 0, none⟩), .pointer (some ⟨H, 0, none⟩), .pointer (some ⟨H, 0, none⟩), .func (.func F) #[] caps, .bool false, .bool false, .pointer (some ⟨H, 0, none⟩), .pointer (some ⟨H, 0, none⟩), .pointer (some ⟨H, 0, none⟩), .pointer (some ⟨H, 1, none⟩), v, .int .i64 x, .pointer (some ⟨H, 0, none⟩), .pointer (some ⟨H, 0, none⟩), .pointer (some ⟨H, 2, none⟩), .int .i64 (turn : Int), ev (x, (turn : Int)), .slice (some ⟨w.heap.size, 0, none⟩) 1 1, .slice (some ⟨g, 0, none⟩) (l.length + 1) cap, .pointer (some ⟨H, 0, none⟩), .pointer (some ⟨H, 1, none⟩), .pointer (some ⟨H, 0, none⟩), .pointer (some ⟨H, 0, none⟩), .pointer (some ⟨H, 2, none⟩), .int .i64 (turn : Int), .int .i64 ((turn : Int) + 1), .pointer (some ⟨H, 0, none⟩), .pointer (some ⟨H, 2, none⟩), .pointer (some ⟨H, 0, none⟩), .pointer (some ⟨H, 0, none⟩), .pointer (some ⟨H, 1, none⟩), .slice (some ⟨g, 0, none⟩) (l ++ [(x, (turn : Int))]).length cap, .pointer (some ⟨H, 0, none⟩), .pointer (some ⟨H, 0, none⟩), .pointer (some ⟨H, 0, none⟩), .func (.func F) #[] caps, .tuple #[]], defers := [] } w6 := by
      have P6 : HeapAt B H F caps (rise lt (l ++ [(x, (turn : Int))])) (turn + 1) w6 := ⟨.slice (some ⟨g, 0, none⟩) (l ++ [(x, (turn : Int))]).length cap, by rw [show ((turn + 1 : Nat) : Int) = (turn : Int) + 1 from by omega]; exact V6, by
        have h := r6
        unfold ERow at h
        rw [rise_len] at h ⊢
        exact h⟩
      exact bodyPost_end (v := .tuple #[]) (by kernel_rfl) (by kernel_rfl) ⟨rfl, P6, B6, Apart.trans (b := w5) A5.out (Apart.grown (w := w5.drew) R5.out g6)⟩
    exact wpAnyH_done (by kernel_rfl) (Eq.mp (by kernel_rfl) KE) _
  refine rg_calm (by kernel_rfl) rfl (S := fun V => V.cell? ⟨H, 2, none⟩ = some (.int .i64 (turn : Int))) ?_
  refine rgd_pure 0 (some 13) rfl rfl (.pointer (some ⟨H, 0, none⟩)) (by kernel_rfl) (by kernel_rfl) (by kernel_rfl) (fun _ _ _ _ h => h) (by kernel_rfl) (exec_is _ (.inl rfl) _ (by kernel_rfl)) hS0 ?_
  refine rgd_pure 1 (some 14) rfl rfl (.pointer (some ⟨H, 0, none⟩)) (by kernel_rfl) (by kernel_rfl) (by kernel_rfl) (fun _ _ _ _ h => h) (by kernel_rfl) (exec_is _ (.inl rfl) _ (by kernel_rfl)) hS0 ?_
  refine rgd_pure 2 (some 15) rfl rfl (.pointer (some ⟨H, 0, none⟩)) (by kernel_rfl) (by kernel_rfl) (by kernel_rfl) (fun _ _ _ _ h => h) (by kernel_rfl) (fun w => by kernel_rfl) hS0 ?_
  refine rgd_pure 3 (some 16) rfl rfl (.pointer (some ⟨H, 1, none⟩)) (by kernel_rfl) (by kernel_rfl) (by kernel_rfl) (fun _ _ _ _ h => h) (by kernel_rfl) (fun w => by kernel_rfl) hS0 ?_
  refine rgd_pure 5 (some 18) rfl rfl (.int .i64 x) (by kernel_rfl) (by kernel_rfl) (by kernel_rfl) (fun _ _ _ _ h => h) (by kernel_rfl) (exec_is _ (.inl rfl) _ (by kernel_rfl)) hS0 ?_
  refine rgd_pure 6 (some 19) rfl rfl (.pointer (some ⟨H, 0, none⟩)) (by kernel_rfl) (by kernel_rfl) (by kernel_rfl) (fun _ _ _ _ h => h) (by kernel_rfl) (exec_is _ (.inl rfl) _ (by kernel_rfl)) hS0 ?_
  refine rgd_pure 7 (some 20) rfl rfl (.pointer (some ⟨H, 0, none⟩)) (by kernel_rfl) (by kernel_rfl) (by kernel_rfl) (fun _ _ _ _ h => h) (by kernel_rfl) (fun w => by kernel_rfl) hS0 ?_
  refine rgd_pure 8 (some 21) rfl rfl (.pointer (some ⟨H, 2, none⟩)) (by kernel_rfl) (by kernel_rfl) (by kernel_rfl) (fun _ _ _ _ h => h) (by kernel_rfl) (fun w => by kernel_rfl) hS0 ?_
  refine rgd_load 9 (some 22) rfl rfl (by kernel_rfl) (by kernel_rfl) (by kernel_rfl) (fun _ _ _ _ h => h) (by kernel_rfl) _ _ rfl Try.underlying3 rfl ⟨H, 2, none⟩ (.int .i64 (turn : Int)) (by kernel_rfl) (fun V h => h) hS0 ?_
  refine rgd_pure 10 (some 23) rfl rfl (ev (x, (turn : Int))) (by kernel_rfl) (by kernel_rfl) (by kernel_rfl) (fun _ _ _ _ h => h) (by kernel_rfl) (fun w => by kernel_rfl) hS0 ?_
  refine rgd_acts 4 11 (some 17) (some 24) (by kernel_rfl) rfl rfl (by kernel_rfl) v w.drew (exec_load1 _ _ rfl Try.underlying72 rfl ⟨H, 1, none⟩ v (by kernel_rfl) hV0) hS0 rfl rfl (by kernel_rfl) (.slice (some ⟨w.heap.size, 0, none⟩) 1 1) (w.drew.alloc (.cells #[.int .i64 x, .int .i64 (turn : Int)] 89)) (by kernel_rfl) hSA ?_ ?_
  · refine rgd_run 11 (some 24) (by kernel_rfl) rfl rfl (by kernel_rfl) (.slice (some ⟨w.heap.size, 0, none⟩) 1 1) (w.drew.alloc (.cells #[.int .i64 x, .int .i64 (turn : Int)] 89)) (by kernel_rfl) hSA ?_
    refine rgd_run 12 (some 25) (by kernel_rfl) rfl rfl (by kernel_rfl) (.slice (some ⟨g, 0, none⟩) (l ++ [(x, (turn : Int))]).length cap) w3 (exec_push _ _ rfl _ _ _ (by kernel_rfl) (by kernel_rfl) hrun) hS3 ?_
    refine rgd_pure 13 (some 26) rfl rfl (.pointer (some ⟨H, 0, none⟩)) (by kernel_rfl) (by kernel_rfl) (by kernel_rfl) (fun _ _ _ _ h => h) (by kernel_rfl) (fun w => by kernel_rfl) hS3 ?_
    refine rgd_pure 14 (some 27) rfl rfl (.pointer (some ⟨H, 1, none⟩)) (by kernel_rfl) (by kernel_rfl) (by kernel_rfl) (fun _ _ _ _ h => h) (by kernel_rfl) (fun w => by kernel_rfl) hS3 ?_
    refine rgd_do 15 none (by kernel_rfl) rfl rfl (by kernel_rfl) _ (exec_storeSl _ _ _ rfl (fun w => by kernel_rfl) ⟨H, 1, none⟩ _ _ _ v (by kernel_rfl) (by kernel_rfl) hc3 hf3) hS4 ?_
    exact wpAnyH_done (by kernel_rfl) (Eq.mp (by kernel_rfl) KF) _
  · refine rgd_run 4 (some 17) (by kernel_rfl) rfl rfl (by kernel_rfl) v _ (exec_load1 _ _ rfl Try.underlying72 rfl ⟨H, 1, none⟩ v (by kernel_rfl) hVA) hSA ?_
    refine rgd_run 12 (some 25) (by kernel_rfl) rfl rfl (by kernel_rfl) (.slice (some ⟨g, 0, none⟩) (l ++ [(x, (turn : Int))]).length cap) w3 (exec_push _ _ rfl _ _ _ (by kernel_rfl) (by kernel_rfl) hrun) hS3 ?_
    refine rgd_pure 13 (some 26) rfl rfl (.pointer (some ⟨H, 0, none⟩)) (by kernel_rfl) (by kernel_rfl) (by kernel_rfl) (fun _ _ _ _ h => h) (by kernel_rfl) (fun w => by kernel_rfl) hS3 ?_
    refine rgd_pure 14 (some 27) rfl rfl (.pointer (some ⟨H, 1, none⟩)) (by kernel_rfl) (by kernel_rfl) (by kernel_rfl) (fun _ _ _ _ h => h) (by kernel_rfl) (fun w => by kernel_rfl) hS3 ?_
    refine rgd_do 15 none (by kernel_rfl) rfl rfl (by kernel_rfl) _ (exec_storeSl _ _ _ rfl (fun w => by kernel_rfl) ⟨H, 1, none⟩ _ _ _ v (by kernel_rfl) (by kernel_rfl) hc3 hf3) hS4 ?_
    exact wpAnyH_done (by kernel_rfl) (Eq.mp (by kernel_rfl) KF) _
end Go.Proofs.Ytiadljcfcncbkaa
