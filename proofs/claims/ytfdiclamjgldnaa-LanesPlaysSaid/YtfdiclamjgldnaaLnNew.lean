/- Lanes between n, made. -/
import Derived.Test.YtfdiclamjgldnaaLnCalls2
namespace Go.Proofs.Ytfdiclamjgldnaa
open Go Go.RowKit Go.Conc
set_option linter.unusedVariables false

theorem exec_wput {P : Program} {o : Oper} {a : Act} {w : World} {T : TypeId} (x y z : Operand) (ho : o.op = .mapUpdate T x y z) (vx vy vz : Value) (hx : a.eval x = vx) (hy : a.eval y = vy) (hz : a.eval z = vz) (w' : World) (hrun : (Instr.mapUpdate T vx vy vz).run P w = .ok () w') : (execOp a.eval o).run P w = .ok .skip w' := by
  unfold execOp
  simp only [ho, hx, hy, hz, Sem.run_bind, hrun, Result.andThen_ok, Sem.run_pure]
theorem Ls.add {w w1 : World} {B A M c : Nat} {es : List Went} {D : Wy → Wd} {S L : Int} (h : Ls w B A M c es D S L) (hb : Below w.heap.size w w1) (d : Wy) (hd : d ∉ es.map (·.1)) (a C : Nat) (ha : w.heap.size ≤ a) (hC : w.heap.size ≤ C) (hx : Bx w1 a C 40 []) :
    Ls (wmapTo w1 M (.map (wents (es ++ [(d, a, c)])).toArray (c + 1))) B A M (c + 1) (es ++ [(d, a, c)]) (updW D d ⟨C, [], [], []⟩) S L := by
  have h1 := h.below hb
  have hg := wmapTo_grown w1 M (.map (wents (es ++ [(d, a, c)])).toArray (c + 1))
  have hr : ∀ k, some M = some k → Off w1 k := fun k q => by obtain rfl := Option.some.inj q; exact h1.offM
  have ne : ∀ e ∈ es, e.1 ≠ d := wabsent_of hd
  have hBw : B ≤ w.heap.size := Nat.le_trans h.bA (Nat.le_of_lt h.ltA)
  have isLt : ∀ e ∈ es, (D e.1).C < w.heap.size := fun e he => (h.way e he).box.lt
  have neMC : some C ≠ some M := fun q => by have := Option.some.inj q; have := h.ltM; omega
  refine ⟨(hg.block A h1.ltA (fun q => h1.neAM (Option.some.inj q))).trans h1.obj, wmapTo_at h1.mp, h.bA, h.bM, fun e he => ?_, ?_, fun x hx y hy hne => ?_, fun x hx y hy hne m hm => ?_, fun x hx => ?_⟩
  · rcases List.mem_append.1 he with he | he
    · rw [updW_other _ _ (ne e he)]
      refine (h1.way e he).kept hg (fun q => ?_) (fun m hm q => ?_) hr
      · obtain ⟨_, _, hc⟩ := (h1.way e he).box.chan
        have h2 : w1.heap[M]? = _ := h1.mp
        rw [← Option.some.inj q, hc] at h2; cases h2
      · obtain ⟨_, v, hv, _⟩ := (h1.way e he).msgs.ge m hm
        have h2 : w1.heap[M]? = _ := h1.mp
        rw [← Option.some.inj q, hv] at h2; cases h2
    · obtain rfl := List.mem_singleton.1 he
      rw [updW_same]
      exact ⟨hx.kept hg neMC (fun q => by have := Option.some.inj q; have := h.ltM; omega), trivial, trivial, Nat.le_trans hBw hC⟩
  · rw [List.map_append, List.nodup_append]
    refine ⟨h.nodup, by simp, fun x hx y hy q => ?_⟩
    have : y = d := by simpa using hy
    subst this; subst q
    exact hd hx
  · rcases List.mem_append.1 hx with hx | hx <;> rcases List.mem_append.1 hy with hy | hy
    · rw [updW_other _ _ (ne x hx), updW_other _ _ (ne y hy)]; exact h.apC x hx y hy hne
    · obtain rfl := List.mem_singleton.1 hy
      rw [updW_other _ _ (ne x hx), updW_same]
      have := isLt x hx
      show (D x.1).C ≠ C
      omega
    · obtain rfl := List.mem_singleton.1 hx
      rw [updW_other _ _ (ne y hy), updW_same]
      have := isLt y hy
      show C ≠ (D y.1).C
      omega
    · obtain rfl := List.mem_singleton.1 hx
      obtain rfl := List.mem_singleton.1 hy
      exact absurd rfl hne
  · rcases List.mem_append.1 hx with hx | hx <;> rcases List.mem_append.1 hy with hy | hy
    · rw [updW_other _ _ (ne x hx)] at hm; rw [updW_other _ _ (ne y hy)]; exact h.apM x hx y hy hne m hm
    · obtain rfl := List.mem_singleton.1 hy
      rw [updW_same]; simp
    · obtain rfl := List.mem_singleton.1 hx
      rw [updW_same] at hm; simp at hm
    · obtain rfl := List.mem_singleton.1 hx
      obtain rfl := List.mem_singleton.1 hy
      exact absurd rfl hne
  · rcases List.mem_append.1 hx with hx | hx
    · rw [updW_other _ _ (ne x hx)]; exact h.ndM x hx
    · obtain rfl := List.mem_singleton.1 hx
      rw [updW_same]; simp
/-- the ways that are made ahead of (i, j) -/
def DoneW (n i j : Nat) (d : Wy) : Prop := InN n d ∧ (d.1 < i ∨ d.1 = i ∧ d.2 < j)
theorem doneW_end (n i : Nat) (d : Wy) : DoneW n i n d ↔ DoneW n (i + 1) 0 d := by unfold DoneW InN; omega
theorem doneW_same (n i : Nat) (d : Wy) : DoneW n i i d ↔ DoneW n i (i + 1) d := by unfold DoneW InN; omega
theorem doneW_next (n i j : Nat) (hi : i < n) (hj : j < n) (hij : i ≠ j) (d : Wy) : DoneW n i (j + 1) d ↔ DoneW n i j d ∨ d = ((i : Int), (j : Int)) := by
  rw [Prod.ext_iff]; unfold DoneW InN; simp only; omega
theorem doneW_not (n i j : Nat) : ¬ DoneW n i j ((i : Int), (j : Int)) := by unfold DoneW; simp
theorem doneW_all (n : Nat) (d : Wy) : DoneW n n 0 d ↔ InN n d := by unfold DoneW InN; omega
theorem doneW_none (n : Nat) (d : Wy) : ¬ DoneW n 0 0 d := by unfold DoneW InN; omega
/-- lanes that are being made -/
def Made (w : World) (B A M n i j : Nat) : Prop :=
  ∃ c es D, Ls w B A M c es D 0 0 ∧ (∀ d, d ∈ es.map (·.1) ↔ DoneW n i j d) ∧ ∀ k, (D k).xs = []
theorem Made.cell {w : World} {B A M n i j : Nat} (h : Made w B A M n i j) : w.cell? ⟨A, 0, none⟩ = some (.map (some M)) := by obtain ⟨c, es, D, h, _⟩ := h; exact h.cells.1
theorem Made.below {w w' : World} {B A M n i j : Nat} (h : Made w B A M n i j) (hb : Below w.heap.size w w') : Made w' B A M n i j := by obtain ⟨c, es, D, h, h1, h2⟩ := h; exact ⟨c, es, D, h.below hb, h1, h2⟩
theorem Made.again {w : World} {B A M n i j i' j' : Nat} (h : Made w B A M n i j) (hd : ∀ d, DoneW n i j d ↔ DoneW n i' j' d) : Made w B A M n i' j' := by obtain ⟨c, es, D, h, h1, h2⟩ := h; exact ⟨c, es, D, h, fun d => (h1 d).trans (hd d), h2⟩
theorem Made.size {w : World} {B A M n i j : Nat} (h : Made w B A M n i j) : B ≤ w.heap.size := by obtain ⟨c, es, D, h, h1, h2⟩ := h; exact Nat.le_trans h.bA (Nat.le_of_lt h.ltA)
theorem Made.put {w w1 : World} {B A M n i j : Nat} (h : Made w B A M n i j) (hi : i < n) (hj : j < n) (hij : i ≠ j) (hb : Below w.heap.size w w1) (a C : Nat) (ha : w.heap.size ≤ a) (hC : w.heap.size ≤ C) (hx : Bx w1 a C 40 []) :
    ∃ w2, (Instr.mapUpdate 47 (.map (some M)) (.agg #[.int .i64 (i : Int), .int .i64 (j : Int)]) (.pointer (some ⟨a, 0, none⟩))).run Try.prog w1 = .ok () w2 ∧ Made w2 B A M n i (j + 1) ∧ Below B w w2 := by
  obtain ⟨c, es, D, hL, h1, h2⟩ := h
  have hd : (((i : Int), (j : Int)) : Wy) ∉ es.map (·.1) := fun q => doneW_not n i j ((h1 _).1 q)
  have hBw : B ≤ w.heap.size := Nat.le_trans hL.bA (Nat.le_of_lt hL.ltA)
  have hp := run_wput (hL.below hb).mp ((i : Int), (j : Int)) a hd
  refine ⟨_, hp, ⟨c + 1, _, _, hL.add hb _ hd a C ha hC hx, fun d => ?_, fun k => ?_⟩, (hb.mono hBw).grown (wmapTo_grown _ _ _) (Nat.le_trans hBw hb.size) (fun k q => by obtain rfl := Option.some.inj q; exact hL.bM)⟩
  · rw [List.map_append, List.mem_append, doneW_next n i j hi hj hij, h1]
    simp
  · unfold updW; split
    · rfl
    · exact h2 k
def LnNewTo (w : World) (n : Nat) (e : Ending) (w' : World) : Prop :=
  ∃ A, e = .returned (.pointer (some ⟨A, 0, none⟩)) ∧ Lx w' w.heap.size A n (fun _ => []) 0 0 ∧ Below w.heap.size w w'
set_option maxHeartbeats 4000000 in
theorem lnNew (n : Nat) (h2 : 2 ≤ n) (h64 : n ≤ 64) (w : World) : Calls Try.prog 7 #[.int .i64 (n : Int)] w (LnNewTo w n) := by
  have hmk : ∀ V : World, (Instr.makeMap 47 none).run Try.prog V = .ok (.map (some V.heap.size)) (V.alloc (.map #[] 0)) := fun V => by kernel_rfl
  have M0 : Hid (Made ((w.alloc (.map #[] 0)).alloc (.cells #[.map (some w.heap.size), .int .i64 0, .int .i64 0] 49)) w.heap.size (w.heap.size + 1) w.heap.size n 0 0) := by
    refine ⟨0, [], fun _ => ⟨0, [], [], []⟩, ⟨?_, ?_, by omega, Nat.le_refl _, fun e he => by simp at he, by simp, fun e he => by simp at he, fun e he => by simp at he, fun e he => by simp at he⟩, fun d => ⟨fun q => by simp at q, fun q => absurd q (doneW_none n d)⟩, fun _ => rfl⟩
    · have e := heap_alloc_new (w.alloc (.map #[] 0)) (.cells #[.map (some w.heap.size), .int .i64 0, .int .i64 0] 49)
      rw [World.size_alloc] at e
      exact e
    · exact (Below.heap_alloc _ _ _ (by simp)).trans (heap_alloc_new w _)
  have B0 : Hid (Below w.heap.size w ((w.alloc (.map #[] 0)).alloc (.cells #[.map (some w.heap.size), .int .i64 0, .int .i64 0] 49))) := ((Below.refl _ w).alloc (Nat.le_refl _) _).alloc (by simp) _
  have q1 : ¬ (n : Int) < 2 := by omega
  have q2 : ¬ (64 : Int) < n := by omega
  generalize hM : w.heap.size = M at *
  go_enter Try.func7, Try.ntmps7
  go_wp2
  go_loopw [16] (fun i wr => ∃ k : Nat, k ≤ n ∧ i = .int .i64 k ∧ Made wr M (M + 1) M n k 0 ∧ Below M w wr) (fun i _ => n - (intOf i).toNat)
  case atStart => subst hM; exact ⟨0, Nat.zero_le _, rfl, M0.out, B0.out⟩
  case round =>
    obtain ⟨k, hk, rfl, hm, hb⟩ := hrel
    have MD := Lib.hid hm; have BD := Lib.hid hb
    clear hm hb
    by_cases hlt : k < n
    · have hlt' : (k : Int) < n := by omega
      go_wp2
      go_loopw [20] (fun i wr => ∃ q : Nat, q ≤ n ∧ i = .int .i64 q ∧ Made wr M (M + 1) M n k q ∧ Below M w wr) (fun i _ => n - (intOf i).toNat)
      case atStart => exact ⟨0, Nat.zero_le _, rfl, MD.out, BD.out⟩
      case round =>
        clear MD BD
        obtain ⟨q, hq0, rfl, hm, hb⟩ := hrel
        have MD := Lib.hid hm; have BD := Lib.hid hb
        clear hm hb
        by_cases hq : q < n
        · have hq' : (q : Int) < n := by omega
          by_cases hkq : k = q
          · subst hkq
            have MD2 := Lib.hid (MD.out.again (doneW_same n k))
            go_wp2
            go_roundw
            case rel => exact ⟨k + 1, by omega, by go_num, MD2.out, BD.out⟩
            case measure => simp [intOf]; omega
          · have hkq' : ((k : Int) != (q : Int)) = true := by simp; omega
            go_wp2
            have S0 : wr.drew.cell? ⟨M + 1, 0, none⟩ = some (.map (some M)) := MD.out.cell
            refine rg_last (m := 9) (S := fun w' => w'.cell? ⟨M + 1, 0, none⟩ = some (.map (some M))) (by kernel_rfl) rfl ?_
            refine rgd_pure 0 (some 26) rfl rfl (.pointer (some ⟨M + 1, 0, none⟩)) (by kernel_rfl) (by kernel_rfl) (by kernel_rfl) (fun _ _ _ _ h => h) (by kernel_rfl) (fun _ => by kernel_rfl) S0 ?_
            refine rgd_pure 1 (some 27) rfl rfl (.pointer (some ⟨M + 1, 0, none⟩)) (by kernel_rfl) (by kernel_rfl) (by kernel_rfl) (fun _ _ _ _ h => h) (by kernel_rfl) (fun _ => by kernel_rfl) S0 ?_
            refine rgd_pure 2 (some 28) rfl rfl (.pointer (some ⟨M + 1, 0, none⟩)) (by kernel_rfl) (by kernel_rfl) (by kernel_rfl) (fun _ _ _ _ h => h) (by kernel_rfl) (fun _ => by kernel_rfl) S0 ?_
            refine rgd_load 3 (some 29) rfl rfl (by kernel_rfl) (by kernel_rfl) (by kernel_rfl) (fun _ _ _ _ h => h) (by kernel_rfl) _ _ rfl Try.underlying47 rfl ⟨M + 1, 0, none⟩ (.map (some M)) (by kernel_rfl) (fun _ h => h) S0 ?_
            refine rgd_pure 4 (some 30) rfl rfl (.int .i64 (k : Int)) (by kernel_rfl) (by kernel_rfl) (by kernel_rfl) (fun _ _ _ _ h => h) (by kernel_rfl) (fun _ => by kernel_rfl) S0 ?_
            refine rgd_pure 5 (some 31) rfl rfl (.int .i64 (q : Int)) (by kernel_rfl) (by kernel_rfl) (by kernel_rfl) (fun _ _ _ _ h => h) (by kernel_rfl) (fun _ => by kernel_rfl) S0 ?_
            refine rgd_pure 6 (some 32) rfl rfl (.agg #[.int .i64 (k : Int), .int .i64 (q : Int)]) (by kernel_rfl) (by kernel_rfl) (by kernel_rfl) (fun _ _ _ _ h => h) (by kernel_rfl) (fun _ => by kernel_rfl) S0 ?_
            refine rgd_call 7 (some 33) (by kernel_rfl) rfl rfl (by kernel_rfl) 19 #[.int .i64 40] (by kernel_rfl) (newP 40 40 _ (by omega) (by omega)) ?_
            rintro e w1 ⟨a, C, rfl, ha, hC, hx, hb⟩
            have hb0 := thenBelow (Below.refl wr.heap.size wr).drew hb
            obtain ⟨w2, hp, hm2, hb2⟩ := MD.out.put hlt hq hkq hb0 a C ha hC hx
            have MD2 := Lib.hid hm2; have BD2 := Lib.hid (BD.out.trans hb2)
            refine ⟨_, rfl, (MD.out.below hb0).cell, ?_⟩
            refine rgd_do 8 none (by kernel_rfl) rfl rfl (by kernel_rfl) _ (exec_wput _ _ _ rfl _ _ _ (by kernel_rfl) (by kernel_rfl) (by kernel_rfl) w2 hp) hm2.cell ?_
            rename_i Q1 hK1
            refine wpAnyH_done (by kernel_rfl) ?_ _
            simp only [Exit.then, Exit.inBlock]
            refine hK1 _ _ ?_
            simp only [Act.put, List.setIfInBounds_toArray, List.set_cons_zero, List.set_cons_succ]
            clear hp hm2 hb2 hx hb hb0 S0
            go_wp2
            go_roundw
            case rel => exact ⟨q + 1, by omega, by go_num, MD2.out, BD2.out⟩
            case measure => simp [intOf]; omega
        · obtain rfl : q = n := by omega
          have MD2 := Lib.hid (MD.out.again (doneW_end q k))
          go_wp2
          go_roundw
          case rel => exact ⟨k + 1, by omega, by go_num, MD2.out, BD.out⟩
          case measure => simp [intOf]; omega
    · obtain rfl : k = n := by omega
      have R : Hid (LnNewTo w k (.returned (.pointer (some ⟨M + 1, 0, none⟩))) wr) := by
        obtain ⟨c, es, D, hL, h1, h3⟩ := MD.out
        subst hM
        exact ⟨_, rfl, ⟨_, c, es, D, hL, fun d => (h1 d).trans (doneW_all k d), h3⟩, BD.out⟩
      go_wp2
      go_ret
      exact R.out
end Go.Proofs.Ytfdiclamjgldnaa
