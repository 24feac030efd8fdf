/- sorted's draw. -/
import Derived.Test.YtiadljcfcncbkaaHpSink
import Derived.Laws.IdiomCopy
import Derived.Deep.DeepCutAuto
namespace Go.Proofs.Ytiadljcfcncbkaa
open Go Go.RowKit Hp
set_option linter.unusedVariables false

theorem ERow.take {w : World} {B G cap : Nat} {l : List E} (h : ERow w B G cap l) (n : Nat) (hn : n ≤ l.length) : ERow w B G cap (l.take n) := by
  have hl : (l.take n).length = n := by rw [List.length_take]; omega
  have he : pc (ecs (l.take n)) = (pc (ecs l)).take (n * 2) := by
    have : ∀ (l : List (Value × Value)) (n : Nat), pc (l.take n) = (pc l).take (n * 2) := by
      intro l
      induction l with
      | nil => intro n; simp [pc]
      | cons z l ih =>
        intro n
        cases n with
        | zero => simp [pc]
        | succ n => rw [List.take_succ_cons, pc_cons, pc_cons, ih, show (n + 1) * 2 = n * 2 + 1 + 1 from by omega]; rfl
    rw [← this]
    congr 1
    simp [ecs, List.map_take]
  unfold ERow
  rw [hl, he]
  obtain ⟨h1, h2⟩ := h
  refine ⟨by rw [List.length_take]; omega, ?_⟩
  rcases h2 with ⟨h', _⟩ | ⟨g, cap', cur, h', q1, q2, q3, q4, q5, q6⟩
  · cases h'
  · injection h' with e1 _ e2
    cases e1
    subst e2
    refine .inr ⟨G, cap, cur, rfl, q1, q2, by omega, q4, q5, ?_⟩
    rw [← q6, List.take_take]
    congr 1
    omega
/-- what is left when the first has been taken -/
def Hp.left (lt : E → E → Bool) (l : List E) : List E := sink lt ((l.set 0 (l.getD (l.length - 1) d)).take (l.length - 1))
theorem run_clearE (w : World) (ty : TypeId) (B G cap c k : Nat) (l : List E) (hr : ERow w B G cap l) (hk : k < l.length) :
    (Builtin.clear_ #[72] ty #[.slice (some ⟨G, k * 2, none⟩) 1 c]).run Try.prog w = .ok (.tuple #[]) (setE w G k (0, 0)) := by
  obtain ⟨c0, c1⟩ := hr.cells k hk
  have f0 := hr.frozen (k * 2)
  have f1 := hr.frozen (k * 2 + 1)
  have hz : (zeroValue 89).run Try.prog w = .ok (.agg #[.int .i64 0, .int .i64 0]) w := by kernel_rfl
  have hst := run_storeCells_cells (P := Try.prog) G (k * 2) [.int .i64 0, .int .i64 0] 0 w (fun j hj => by
    match j, hj with
    | 0, _ => show (w.cell? ⟨G, k * 2 + 0 + 0, none⟩).isSome = true; rw [show k * 2 + 0 + 0 = k * 2 from rfl, c0]; rfl
    | 1, _ => show (w.cell? ⟨G, k * 2 + 0 + 1, none⟩).isSome = true; rw [show k * 2 + 0 + 1 = k * 2 + 1 from rfl, c1]; rfl) (fun j hj => by
    match j, hj with
    | 0, _ => exact f0
    | 1, _ => exact f1) (by intro v hv; simp at hv; subst hv; simp [Value.oneCell'])
  have hzc : (Builtin.zeroCells (Value.agg #[.int .i64 0, .int .i64 0]).cells 1).toList = [.int .i64 0, .int .i64 0] := by kernel_rfl
  have hu := Try.underlying72
  simp only [Builtin.clear_]
  simp [run_underlying hu, hz, hzc, hst, Sem.run_bind]
  rfl
theorem set_cells2 {w : World} {g : Nat} {cs : Array Value} {t : TypeId} {m : Nat × Nat} (h : w.heap[g]? = some (.cells cs t m)) (j : Nat) (v : Value) : (w.setCell ⟨g, j, none⟩ v).heap[g]? = some (.cells (cs.setIfInBounds j v) t m) := by
  obtain ⟨hlt, hk⟩ := Array.getElem?_eq_some_iff.1 h
  show (w.heap.modify g _)[g]? = _
  rw [Array.getElem?_eq_getElem (by rw [Array.size_modify]; exact hlt), Array.getElem_modify_self, hk]
  rfl
theorem results_cell_row2 {P : Program} {fn : Func} {p q : Tmp} {ty : TypeId} (h : fn.results = #[.cell p ty, .tmp q]) (tmps : Array Value) (w : World) (g : Nat) (t : TypeId) (cs : Array Value) (fr : Nat × Nat) (d : TypeDesc)
    (hp : tmps.getD p undef = .pointer (some ⟨g, 0, none⟩)) (hg : w.heap[g]? = some (.cells cs t fr))
    (hu : P.underlying ty = some d) (hd : (match d with | .struct _ | .array _ _ => true | _ => false) = true) (hi : (P.info? ty).map (·.size) = some cs.size) (u : Value) (hq : tmps.getD q undef = u) :
    (results fn tmps).run P w = .ok (.tuple #[.agg cs, u]) w := by
  subst hq
  have hp' : tmps[p]?.getD undef = .pointer (some ⟨g, 0, none⟩) := by simpa using hp
  simp [results, h, hp', asAddr, run_loadVar_row w g t ty cs fr d hg hu hd hi]
theorem exec_cutE {o : Oper} {a : Act} (x y : Operand) (ho : o.op = .slice 72 x none (some y) none) (G n cap k : Nat) (hx : a.eval x = .slice (some ⟨G, 0, none⟩) n cap) (hy : a.eval y = .int .i64 (k : Int)) (hk : k ≤ cap) (w : World) :
    (execOp a.eval o).run Try.prog w = .ok (.value (.slice (some ⟨G, 0, none⟩) k cap)) w := by
  have hk' : (k : Int) ≤ (cap : Int) := by omega
  unfold execOp
  simp only [ho, hx, hy, Option.map_some, Option.map_none]
  go_simp
theorem exec_storeBox {o : Oper} {a : Act} {w : World} (x y : Operand) (ho : o.op = .store 89 x y) (r : Nat) (e : E) (u v : Value) (hx : a.eval x = .pointer (some ⟨r, 0, none⟩)) (hy : a.eval y = ev e) (hr : w.heap[r]? = some (Obj.cells #[u, v] 89 (0, 0))) :
    (execOp a.eval o).run Try.prog w = .ok .skip (setE w r 0 e) := by
  have h := run_storeAt_mid (P := Try.prog) w r 0 89 #[.int .i64 e.1, .int .i64 e.2] (fun j hj => by
    match j, hj with
    | 0, _ => exact ⟨by rw [cell_of_row w r 0 _ _ _ hr]; rfl, frozen_of_row w r 0 _ _ hr⟩
    | 1, _ => exact ⟨by rw [cell_of_row w r 1 _ _ _ hr]; rfl, frozen_of_row w r 1 _ _ hr⟩) (by kernel_rfl) (by simp [Value.oneCell'])
  unfold execOp
  simp only [ho, hx, hy, ev]
  simp only [Sem.run_bind, h]
  rfl
set_option maxHeartbeats 4000000 in
set_option maxRecDepth 100000 in
theorem draw_is (B G cap n : Nat) (l : List E) (F : FuncId) (caps : Array Value) (lt : E → E → Bool) (dom : E → Prop) (S : World → Prop) (T : Tell F caps lt dom S) (hF : Free G S) (w : World) (hr : ERow w B G cap l) (hd : ∀ e ∈ l, dom e) (hs : S w) (hN : l.length = n + 1) (hlen : n ≤ 1000000) :
    Calls Try.prog 55 #[.slice (some ⟨G, 0, none⟩) (n + 1) cap, .func (.func F) #[] caps] w fun e w' => e = .returned (.tuple #[ev (l.getD 0 d), .slice (some ⟨G, 0, none⟩) n cap]) ∧ ERow w' B G cap (Hp.left lt l) ∧ w.grownBy w' (some G) := by
  have HR := Lib.hid hr; have HD := Lib.hid hd; have HS := Lib.hid hs; have TT := Lib.hid T; have FF := Lib.hid hF; have HN := Lib.hid hN
  obtain ⟨R, hR⟩ : ∃ R, R = Hp.left lt l := ⟨_, rfl⟩
  rw [← hR]
  have RR := Lib.hid hR
  obtain ⟨x, hx⟩ : ∃ x, x = l.getD 0 d := ⟨_, rfl⟩
  obtain ⟨y, hy⟩ : ∃ y, y = l.getD n d := ⟨_, rfl⟩
  rw [← hx]
  have hX := Lib.hid hx; have hY := Lib.hid hy
  have hcap : n + 1 ≤ cap := by
    rcases hr.2 with ⟨h', _⟩ | ⟨g, cap', cur, h', q1, q2, q3, q4, q5, q6⟩
    · cases h'
    · injection h' with e1 _ e2
      rw [e2]; omega
  clear hr hd hs T hF hR hN hx hy
  go_enter Try.func55, Try.ntmps55
  go_upto_region 1 with fail
  have hA := heap_alloc_new w (.cells #[.int .i64 0, .int .i64 0] 89)
  have hb0 : Below w.heap.size w (w.alloc (.cells #[.int .i64 0, .int .i64 0] 89)) := (Below.refl _ w).alloc (Nat.le_refl _) _
  have hGlt := HR.out.lt
  generalize w.alloc (.cells #[.int .i64 0, .int .i64 0] 89) = w1 at hA hb0 ⊢
  have R1 := Lib.hid (HR.out.kept hb0); have G1 := Lib.hid (grown_below (G := G) hb0); have S1 := Lib.hid (FF.out _ _ HS.out (grown_below hb0))
  have hg : G ≠ w.heap.size := by omega
  clear hb0 hGlt
  obtain ⟨r0, hr0w⟩ : ∃ r0, r0 = w.heap.size := ⟨_, rfl⟩
  rw [← hr0w] at hA hg ⊢
  have HW0 := Lib.hid hr0w
  clear hr0w
  have A1 := Lib.hid hA
  have a0 : w1.cell? ⟨G, 0, none⟩ = some (.int .i64 x.1) := by have := (R1.out.cells 0 (by rw [HN.out]; omega)).1; rw [← hX.out] at this; exact this
  have a1 : w1.cell? ⟨G, 1, none⟩ = some (.int .i64 x.2) := by have := (R1.out.cells 0 (by rw [HN.out]; omega)).2; rw [← hX.out] at this; exact this
  have hnew : ∀ (w : World) (x y : Value) (t : TypeId), (w.alloc (.cells #[x, y] t)).cell? ⟨w.heap.size, 0, none⟩ = some x ∧ (w.alloc (.cells #[x, y] t)).cell? ⟨w.heap.size, 1, none⟩ = some y ∧ (w.alloc (.cells #[x, y] t)).frozen? ⟨w.heap.size, 0, none⟩ = false ∧ (w.alloc (.cells #[x, y] t)).frozen? ⟨w.heap.size, 1, none⟩ = false := fun w x y t => by
    have h := heap_alloc_new w (.cells #[x, y] t)
    exact ⟨(cell_of_row _ _ 0 _ _ _ h).trans rfl, (cell_of_row _ _ 1 _ _ _ h).trans rfl, frozen_of_row _ _ 0 _ _ h, frozen_of_row _ _ 1 _ _ h⟩
  obtain ⟨d0, d1, e0, e1⟩ := hnew w1 (.int .i64 0) (.int .i64 0) 89
  obtain ⟨d2, d3, e2, e3⟩ := hnew w1 (.int .i64 x.1) (.int .i64 x.2) 89
  clear hA hnew
  go_upto_region 2 with fail
  have hA := heap_alloc_new w1 (.cells #[.int .i64 x.1, .int .i64 x.2] 89)
  have hb0 : Below w1.heap.size w1 (w1.alloc (.cells #[.int .i64 x.1, .int .i64 x.2] 89)) := (Below.refl _ w1).alloc (Nat.le_refl _) _
  have hGlt := R1.out.lt
  have hr0 : r0 < w1.heap.size := (Array.getElem?_eq_some_iff.1 A1.out).1
  generalize w1.alloc (.cells #[.int .i64 x.1, .int .i64 x.2] 89) = w2 at hA hb0 ⊢
  have A2 := Lib.hid ((hb0.block r0 hr0).trans A1.out)
  have R2 := Lib.hid (R1.out.kept hb0); have G2 := Lib.hid (grown_trans G1.out (grown_below (G := G) hb0)); have S2 := Lib.hid (FF.out _ _ S1.out (grown_below hb0))
  have hg1 : G ≠ w1.heap.size := by omega
  clear hb0 hGlt a0 a1 d0 d1 d2 d3 e0 e1 e2 e3 R1 G1 S1 A1
  generalize w1.heap.size = r1 at hA hg1 hr0 ⊢
  have C2 := Lib.hid hA
  clear hA
  have a0 := (R2.out.cells 0 (by rw [HN.out]; omega)).1
  have a1 := (R2.out.cells 0 (by rw [HN.out]; omega)).2
  have b0 := (R2.out.cells n (by rw [HN.out]; omega)).1
  have b1 := (R2.out.cells n (by rw [HN.out]; omega)).2
  rw [← hY.out] at b0 b1
  simp only [Nat.zero_mul, Nat.zero_add] at a0 a1
  have f0 := R2.out.frozen 0
  have f1 := R2.out.frozen 1
  go_upto_region 3 with fail
  obtain ⟨n3, g3⟩ := R2.out.set 0 y (by rw [HN.out]; omega)
  have e3 : (w2.setCell ⟨G, 0, none⟩ (.int .i64 y.1)).setCell ⟨G, 1, none⟩ (.int .i64 y.2) = setE w2 G 0 y := rfl
  rw [e3]
  have A3 := Lib.hid ((g3.block r0 (Array.getElem?_eq_some_iff.1 A2.out).1 (fun e => by cases e; exact hg rfl)).trans A2.out)
  have C3 := Lib.hid ((g3.block r1 (Array.getElem?_eq_some_iff.1 C2.out).1 (fun e => by cases e; exact hg1 rfl)).trans C2.out)
  have G3 := Lib.hid (grown_trans G2.out g3); have S3 := Lib.hid (FF.out _ _ S2.out g3); have R3 := Lib.hid n3
  clear a0 a1 b0 b1 f0 f1 e3 n3 g3 R2 G2 S2 A2 C2
  generalize setE w2 G 0 y = w3 at A3 C3 G3 S3 R3 ⊢
  have hcl := fun ty c => run_clearE w3 ty B G cap c n (l.set 0 y) R3.out (by rw [List.length_set, HN.out]; omega)
  go_upto_region 4 with fail
  obtain ⟨n4, g4⟩ := R3.out.set n (0, 0) (by rw [List.length_set, HN.out]; omega)
  have A4 := (g4.block r0 (Array.getElem?_eq_some_iff.1 A3.out).1 (fun e => by cases e; exact hg rfl)).trans A3.out
  have C4 := (g4.block r1 (Array.getElem?_eq_some_iff.1 C3.out).1 (fun e => by cases e; exact hg1 rfl)).trans C3.out
  have G4 := grown_trans G3.out g4
  have S4 := FF.out _ _ S3.out g4
  have n5 := n4.take n (by rw [List.length_set, List.length_set, HN.out]; omega)
  obtain ⟨L, hL⟩ : ∃ L, L = (l.set 0 y).take n := ⟨_, rfl⟩
  have hLe : ((l.set 0 y).set n (0, 0)).take n = L := by rw [hL, List.take_set_of_le (Nat.le_refl _)]
  rw [hLe] at n5
  have hLn : L.length = n := by rw [hL, List.length_take, List.length_set, HN.out]; omega
  have hRL : R = sink lt L := by
    rw [RR.out, hL]
    unfold Hp.left
    rw [HN.out, Nat.add_sub_cancel, ← hY.out]
  have hLd : ∀ e ∈ L, dom e := by
    intro e he
    rw [hL] at he
    rcases List.mem_or_eq_of_mem_set (List.mem_of_mem_take he) with he | rfl
    · exact HD.out e he
    · rw [hY.out]; exact dom_at HD.out (by rw [HN.out]; omega)
  have SK := Lib.hid (sink_is B G cap L F caps lt dom S TT.out FF.out (setE w3 G n (0, 0)) n5 hLd S4 (by omega))
  rw [hLn, ← hRL] at SK
  have A4' := Lib.hid A4; have C4' := Lib.hid C4; have G4' := Lib.hid G4
  clear n4 g4 A4 C4 G4 S4 n5 hLe hL hLn hRL hLd hcl A3 C3 G3 S3 R3
  generalize setE w3 G n (0, 0) = w4 at SK A4' C4' G4' ⊢
  go_wp2_with fail
  refine SK.out.mono ?_
  rintro e w5 ⟨rfl, hr5, hg5⟩
  have A5 := Lib.hid ((hg5.block r0 (Array.getElem?_eq_some_iff.1 A4'.out).1 (fun e => by cases e; exact hg rfl)).trans A4'.out)
  have C5 := Lib.hid ((hg5.block r1 (Array.getElem?_eq_some_iff.1 C4'.out).1 (fun e => by cases e; exact hg1 rfl)).trans C4'.out)
  have R5 := Lib.hid hr5; have G5 := Lib.hid (grown_trans G4'.out hg5)
  clear hr5 hg5 SK A4' C4' G4'
  go_wp2_with fail
  rename_i K hK
  have h6 : (setE w5.drew r0 0 x).heap[r0]? = some (Obj.cells #[.int .i64 x.1, .int .i64 x.2] 89 (0, 0)) := set_cells2 (set_cells2 (show w5.drew.heap[r0]? = _ from A5.out) (0 * 2) (.int .i64 x.1)) (0 * 2 + 1) (.int .i64 x.2)
  have hg6 : w5.grownBy (setE w5.drew r0 0 x) (some r0) := ⟨rfl, rfl, rfl, by show w5.drew.heap.size ≤ _; unfold setE; simp, fun j hj hne => by
    have h1 : r0 ≠ j := fun e => hne (by rw [e])
    unfold setE
    exact (Below.heap_setCell _ ⟨r0, 0 * 2 + 1, none⟩ _ j (fun e => h1 e.symm)).trans (Below.heap_setCell _ ⟨r0, 0 * 2, none⟩ _ j (fun e => h1 e.symm))⟩
  have hR6 : ERow (setE w5.drew r0 0 x) B G cap R := World.ownsRow.kept R5.out hg6 (.inr (by simp only [Value.ownBlock]; intro e; injection e with e; exact hg e))
  have hG6 : w.grownBy (setE w5.drew r0 0 x) (some G) := ⟨hg6.os.trans G5.out.os, hg6.tape.trans G5.out.tape, hg6.output.trans G5.out.output, Nat.le_trans G5.out.size hg6.size, fun j hj hne => (hg6.block j (Nat.lt_of_lt_of_le hj G5.out.size) (fun e => by injection e with e; have := HW0.out; omega)).trans (G5.out.block j hj hne)⟩
  have KF : K { tmps := #[.slice (some ⟨G, 0, none⟩) (n + 1) cap, .func (.func F) #[] caps, undef, undef, .pointer (some ⟨r0, 0, none⟩), .slice (some ⟨G, 0, none⟩) n cap, .pointer (some ⟨r1, 0, none⟩), .int .i64 (n : Int), .slice (some ⟨G, 0, none⟩) (n + 1) cap, .pointer (some ⟨G, 0, none⟩), ev x, .slice (some ⟨G, 0, none⟩) (n + 1) cap, .int .i64 ((n : Int) + 1), .int .i64 (n : Int), .slice (some ⟨G, 0, none⟩) (n + 1) cap, .slice (some ⟨G, 0, none⟩) (n + 1) cap, .int .i64 (n : Int), .pointer (some ⟨G, n * 2, none⟩), ev y, .pointer (some ⟨G, 0, none⟩), .slice (some ⟨G, 0, none⟩) (n + 1) cap, .int .i64 (n : Int), .slice (some ⟨G, n * 2, none⟩) 1 (cap - n), .slice (some ⟨G, 0, none⟩) (n + 1) cap, .int .i64 (n : Int), .slice (some ⟨G, 0, none⟩) n cap, .func (.func F) #[] caps, .tuple #[], ev x, .slice (some ⟨G, 0, none⟩) (n + 1) cap, .int .i64 (n : Int), .slice (some ⟨G, 0, none⟩) n cap], defers := [] } (setE w5.drew r0 0 x) := by
    refine hK _ _ ?_
    clear hK
    generalize setE w5.drew r0 0 x = w6 at *
    have HR6 := Lib.hid hR6; have HG6 := Lib.hid hG6; have H6 := Lib.hid h6
    clear hR6 hG6 h6 hg6
    go_wp2
    exact bodyPost_ret (v := .tuple #[ev x, .slice (some ⟨G, 0, none⟩) n cap]) (results_cell_row2 (p := 4) (q := 5) rfl _ w6 r0 _ _ (0, 0) _ rfl H6.out Try.underlying89 rfl (by kernel_rfl) (.slice (some ⟨G, 0, none⟩) n cap) rfl) rfl ⟨rfl, HR6.out, HG6.out⟩
  have hS : ∀ V : World, V.heap[r1]? = some (Obj.cells #[.int .i64 x.1, .int .i64 x.2] 89 (0, 0)) → V.cell? ⟨r1, 0 * 2, none⟩ = some (.int .i64 x.1) ∧ V.cell? ⟨r1, 0 * 2 + 1, none⟩ = some (.int .i64 x.2) := fun V h => ⟨(cell_of_row V r1 0 _ _ _ h).trans rfl, (cell_of_row V r1 1 _ _ _ h).trans rfl⟩
  have hS0 : w5.drew.heap[r1]? = some (Obj.cells #[.int .i64 x.1, .int .i64 x.2] 89 (0, 0)) := C5.out
  have hS6 : (setE w5.drew r0 0 x).heap[r1]? = some (Obj.cells #[.int .i64 x.1, .int .i64 x.2] 89 (0, 0)) := (hg6.block r1 (Array.getElem?_eq_some_iff.1 C5.out).1 (fun e => by injection e with e; omega)).trans C5.out
  refine rg_calm (by kernel_rfl) rfl (S := fun V => V.heap[r1]? = some (Obj.cells #[.int .i64 x.1, .int .i64 x.2] 89 (0, 0))) ?_
  refine rgd_pureS 0 (some 28) rfl rfl (ev x) (by kernel_rfl) (by kernel_rfl) (by kernel_rfl) (fun _ _ _ _ h => h) (by kernel_rfl) (fun V h => exec_loadE _ rfl r1 0 x (by kernel_rfl) (hS V h).1 (hS V h).2) hS0 ?_
  refine rgd_pure 1 (some 29) rfl rfl (.slice (some ⟨G, 0, none⟩) (n + 1) cap) (by kernel_rfl) (by kernel_rfl) (by kernel_rfl) (fun _ _ _ _ h => h) (by kernel_rfl) (exec_is _ (.inl rfl) _ (by kernel_rfl)) hS0 ?_
  refine rgd_pure 2 (some 30) rfl rfl (.int .i64 (n : Int)) (by kernel_rfl) (by kernel_rfl) (by kernel_rfl) (fun _ _ _ _ h => h) (by kernel_rfl) (exec_is _ (.inl rfl) _ (by kernel_rfl)) hS0 ?_
  refine rgd_pure 3 (some 31) rfl rfl (.slice (some ⟨G, 0, none⟩) n cap) (by kernel_rfl) (by kernel_rfl) (by kernel_rfl) (fun _ _ _ _ h => h) (by kernel_rfl) (exec_cutE _ _ rfl G (n + 1) cap n (by kernel_rfl) (by kernel_rfl) (by omega)) hS0 ?_
  refine rgd_do 4 none (by kernel_rfl) rfl rfl (by kernel_rfl) (setE w5.drew r0 0 x) (exec_storeBox _ _ rfl r0 x _ _ (by kernel_rfl) (by kernel_rfl) A5.out) hS6 ?_
  refine rgd_pure 5 (some 5) rfl rfl (.slice (some ⟨G, 0, none⟩) n cap) (by kernel_rfl) (by kernel_rfl) (by kernel_rfl) (fun _ _ _ _ h => h) (by kernel_rfl) (exec_is _ (.inr rfl) _ (by kernel_rfl)) hS6 ?_
  exact wpAnyH_done (by kernel_rfl) (Eq.mp (by kernel_rfl) KF) _
end Go.Proofs.Ytiadljcfcncbkaa
