/- The document's lanes: Send. -/
import Derived.Test.YtfdiclamjgldnaaLnDoc5
namespace Go.Proofs.Ytfdiclamjgldnaa
open Go Go.RowKit Go.Conc
set_option linter.unusedVariables false

theorem own_keptR {w : World} {B R : Nat} {n0 : Int} {V : Value} {S Lo : Int} (ho : w.heap[R]? = some (rlObj n0 V S Lo)) {v : Value} {n : Nat} {xs : List Value} (hr : w.ownsRow B 61 5 v n xs) (j : Nat) (u : Value) : (w.setCell ⟨R, j, none⟩ u).ownsRow B 61 5 v n xs := by
  refine hr.kept (grown_setCell w R j u) ?_
  rcases hr.2 with ⟨rfl, _⟩ | ⟨g, cap, cur, rfl, _, hg, _⟩
  · exact .inl rfl
  · refine .inr fun e => ?_
    have e1 : g = R := Option.some.inj e
    rw [e1, ho] at hg
    injection hg with e; injection e with _ e2 _; revert e2; decide
theorem keepR {w w' : World} {B R : Nat} {n0 : Int} {V : Value} {S Lo : Int} (ho : w.heap[R]? = some (rlObj n0 V S Lo)) {v : Value} {n : Nat} {xs : List Value} (hr : w.ownsRow B 61 5 v n xs) (hg : w.grownBy w' v.ownBlock) : w'.heap[R]? = some (rlObj n0 V S Lo) := by
  refine (hg.block R (Array.getElem?_eq_some_iff.1 ho).1 (fun q => ?_)).trans ho
  rcases hr.2 with ⟨rfl, _⟩ | ⟨g, cap, cur, rfl, _, hgc, _⟩
  · simp [Value.ownBlock] at q
  · have e1 : R = g := Option.some.inj q
    subst e1
    rw [ho] at hgc
    injection hgc with e; injection e with _ e2 _; revert e2; decide
theorem Rl.cnt {w : World} {B R : Nat} {n : Int} {L : List Pc} {S Lo : Int} (h : Rl w B R n L S Lo) (S' : Int) : Rl (w.setCell ⟨R, 2, none⟩ (.int .i64 S')) B R n L S' Lo := by
  obtain ⟨V, ho, hr, hn⟩ := h.obj
  exact ⟨⟨V, heap_setCell_same w R 2 _ _ _ ho, own_keptR ho hr _ _, hn⟩, h.base, h.ok⟩
theorem Rl.lose {w : World} {B R : Nat} {n : Int} {L : List Pc} {S Lo : Int} (h : Rl w B R n L S Lo) (L' : Int) : Rl (w.setCell ⟨R, 3, none⟩ (.int .i64 L')) B R n L S L' := by
  obtain ⟨V, ho, hr, hn⟩ := h.obj
  exact ⟨⟨V, heap_setCell_same w R 3 _ _ _ ho, own_keptR ho hr _ _, hn⟩, h.base, h.ok⟩
theorem Rl.set {w' : World} {B R : Nat} {n : Int} {L' : List Pc} {S Lo : Int} {V : Value} (ho : w'.heap[R]? = some (rlObj n V S Lo)) (hB : B ≤ R) {V' : Value} (hr : w'.ownsRow B 61 5 V' L'.length (pcl L')) (hn : L' = [] → V' = .slice none 0 0) (hok : ∀ p ∈ L', p.Ok) : Rl (w'.setCell ⟨R, 1, none⟩ V') B R n L' S Lo :=
  ⟨⟨V', heap_setCell_same w' R 1 _ _ _ ho, own_keptR ho hr _ _, hn⟩, hB, hok⟩
theorem Rl.cells {w : World} {B R : Nat} {n : Int} {L : List Pc} {S Lo : Int} (h : Rl w B R n L S Lo) : ∃ p c, w.cell? ⟨R, 0, none⟩ = some (.int .i64 n) ∧ w.cell? ⟨R, 1, none⟩ = some (.slice p L.length c) ∧ w.cell? ⟨R, 2, none⟩ = some (.int .i64 S) ∧ w.cell? ⟨R, 3, none⟩ = some (.int .i64 Lo) ∧ (∀ j, w.frozen? ⟨R, j, none⟩ = false) ∧
    w.heap[R]? = some (rlObj n (.slice p L.length c) S Lo) ∧ w.ownsRow B 61 5 (.slice p L.length c) L.length (pcl L) ∧ PAt w p L ∧ L.length ≤ c ∧ (L = [] → p = none ∧ c = 0) := by
  obtain ⟨V, ho, hr, hn⟩ := h.obj
  obtain ⟨p, c, rfl, hc, _, hp, hp0⟩ := own_pat hr
  refine ⟨p, c, by rw [cell_of_row w R 0 _ _ _ ho]; rfl, by rw [cell_of_row w R 1 _ _ _ ho]; rfl, by rw [cell_of_row w R 2 _ _ _ ho]; rfl, by rw [cell_of_row w R 3 _ _ _ ho]; rfl, fun j => frozen_of_row w R j _ _ ho, ho, hr, hp, hc, fun e => ?_⟩
  have := hn e
  simp only [Value.slice.injEq] at this
  exact ⟨this.1, this.2.2⟩
theorem Rl.size {w : World} {B R : Nat} {n : Int} {L : List Pc} {S Lo : Int} (h : Rl w B R n L S Lo) : B ≤ w.heap.size := Nat.le_trans h.base (Nat.le_of_lt h.lt)
section
variable {P : Program} {o : Oper} {a : Act} {w : World}
theorem exec_storeSl (t : TypeId) (x y : Operand) (ho : o.op = .store t x y) (hsz : ∀ w : World, (sizeOf t).run P w = .ok 1 w) (p : Addr) (q : Option Addr) (n c : Nat) (old : Value) (hx : a.eval x = .pointer (some p)) (hy : a.eval y = .slice q n c)
    (hc : w.cell? p = some old) (hf : w.frozen? p = false) : (execOp a.eval o).run P w = .ok .skip (w.setCell p (.slice q n c)) := by
  unfold execOp
  simp only [ho, hx, hy]
  have hs := hsz w
  go_simp
theorem exec_push {w' : World} {t : TypeId} (x y : Operand) (ho : o.op = .call { callee := .builtin .append, args := #[x, y], argTypes := #[t, t] }) (u v r : Value) (hx : a.eval x = u) (hy : a.eval y = v)
    (h : (Builtin.append_ #[t, t] o.type #[u, v]).run P w = .ok r w') : (execOp a.eval o).run P w = .ok (.value r) w' := by
  simp [execOp, ho, resolve, invoke, builtin, hx, hy, h, Result.andThen]
theorem exec_conv (t s : TypeId) (x : Operand) (ho : o.op = .convert s t x) (vx v : Value) (hx : a.eval x = vx) (hrun : (convert s t vx).run P w = .ok v w) : (execOp a.eval o).run P w = .ok (.value v) w := by
  unfold execOp
  simp only [ho, hx]
  exact run_value_of hrun
end
theorem sizePs (w : World) : (sizeOf 27).run Try.prog w = .ok 1 w := by kernel_rfl
theorem off_R {w : World} {R : Nat} {n S Lo : Int} {V : Value} (ho : w.heap[R]? = some (rlObj n V S Lo)) : Off w R ∧ ∃ cur ty m, w.heap[R]? = some (.cells cur ty m) ∧ ty ≠ 49 ∧ ty ≠ 67 ∧ ty ≠ 32 := by
  have c : w.cell? ⟨R, 0, none⟩ = some (.int .i64 n) := by rw [cell_of_row w R 0 _ _ _ ho]; rfl
  refine ⟨⟨fun p hp => ?_, fun p hp => ?_, fun cur m e => ?_⟩, ⟨_, _, _, ho, by decide, by decide, by decide⟩⟩
  · rw [c] at hp; cases hp
  · rw [c] at hp; cases hp
  · rw [ho] at e; injection e with e; injection e with _ e2 _; revert e2; decide
/-- what a call of the document's comes to -/
def DocTo (B R : Nat) (n : Int) (L : List Pc) (S Lo r : Int) (w : World) (e : Ending) (w' : World) : Prop :=
  e = .returned (.int .i64 r) ∧ Rl w' B R n L S Lo ∧ Below B w w' ∧ DocStep w w'
theorem refSend_no (B R : Nat) (n : Int) (L : List Pc) (S Lo : Int) (f t : Int) (v : Value) (hv : ∃ p m c, v = .slice p m c) (w : World) (h : Rl w B R n L S Lo) (hk : ¬ InN n (f, t)) :
    Calls Try.prog 26 #[.pointer (some ⟨R, 0, none⟩), .int .i64 f, .int .i64 t, v] w (DocTo B R n L S Lo 15 w) := by
  obtain ⟨p, m, c, rfl⟩ := hv
  obtain ⟨_, _, c0, _⟩ := h.cells
  have WY := Lib.hid (refWay_no R n f t w c0 hk)
  have H := Lib.hid h
  clear h c0
  go_enter Try.func26, Try.ntmps26
  go_wp2_with fail
  refine WY.out.mono ?_
  rintro e w' ⟨rfl, rfl⟩
  go_wp2
  go_ret
  exact ⟨rfl, H.out, Below.refl _ _, DocStep.refl _⟩
set_option maxHeartbeats 4000000 in
set_option maxRecDepth 100000 in
theorem refSend_yes (B R : Nat) (n : Int) (L : List Pc) (S Lo : Int) (f t : Int) (bp : Option Addr) (bc : Nat) (bs : List UInt8) (w : World) (h : Rl w B R n L S Lo) (hl : L.length ≤ 99) (hk : InN n (f, t)) (hb : ∀ V, Below B w V → Lies V bp bs) (hbl : bs.length ≤ 1000) (hS : 0 ≤ S ∧ S ≤ 1000000) (hLo : 0 ≤ Lo ∧ Lo ≤ 1000000) :
    Calls Try.prog 26 #[.pointer (some ⟨R, 0, none⟩), .int .i64 f, .int .i64 t, .slice bp bs.length bc] w
      (if 40 ≤ (on (f, t) L).length then DocTo B R n L (S + 1) (Lo + 1) 8 w else DocTo B R n (L ++ [Pc.mk (f, t) bs 0 0]) (S + 1) Lo 0 w) := by
  obtain ⟨_, _, c0, _, c2, _, fz, _⟩ := h.cells
  have f2 := fz 2
  have WY := Lib.hid (refWay_yes R n f t w c0 hk)
  have h1 := h.cnt (S + 1)
  have s1 := docStep_R h 2 (.int .i64 (S + 1))
  have b1 : Below B w (w.setCell ⟨R, 2, none⟩ (.int .i64 (S + 1))) := (Below.refl B w).setCell (p := ⟨R, 2, none⟩) h.base _
  have CN := Lib.hid (refCount_is B R n L (S + 1) Lo f t _ h1 (by omega))
  have H1 := Lib.hid h1; have S1 := Lib.hid s1; have B1 := Lib.hid b1; have HB := Lib.hid hb
  have hs1 : S + 1 ≤ 9223372036854775807 := by omega
  have hl1 : Lo + 1 ≤ 9223372036854775807 := by omega
  have HOK := Lib.hid h.ok
  have hBR := h.base
  clear h h1 s1 b1 hb c0
  by_cases h40 : 40 ≤ (on (f, t) L).length
  · rw [if_pos h40]
    have h40I : (40 : Int) ≤ ((on (f, t) L).length : Nat) := by omega
    generalize (on (f, t) L).length = m at CN h40I
    go_enter Try.func26, Try.ntmps26
    go_wp2_with fail
    refine WY.out.mono ?_
    rintro e w' ⟨rfl, rfl⟩
    go_wp2_with fail
    refine CN.out.mono ?_
    rintro e w2 ⟨rfl, hb2⟩
    have h2 := H1.out.below hb2
    obtain ⟨_, _, _, _, _, c3, fz2, _⟩ := h2.cells
    have f3 := fz2 3
    have R1 : Hid (DocTo B R n L (S + 1) (Lo + 1) 8 w (.returned (.int .i64 8)) (w2.setCell ⟨R, 3, none⟩ (.int .i64 (Lo + 1)))) :=
      ⟨rfl, h2.lose _, B1.out.trans ((hb2.mono H1.out.size).trans ((Below.refl B w2).setCell (p := ⟨R, 3, none⟩) hBR _)), S1.out.trans ((docStep_below hb2).trans (docStep_R h2 3 _))⟩
    clear hb2 h2 H1 S1 B1 CN WY fz fz2
    go_wp2
    go_ret
    exact R1.out
  · rw [if_neg h40]
    have h40I : ¬ (40 : Int) ≤ ((on (f, t) L).length : Nat) := by omega
    generalize (on (f, t) L).length = m at CN h40I
    go_enter Try.func26, Try.ntmps26
    go_wp2_with fail
    refine WY.out.mono ?_
    rintro e w' ⟨rfl, rfl⟩
    go_wp2_with fail
    refine CN.out.mono ?_
    rintro e w2 ⟨rfl, hb2⟩
    have h2 := (H1.out.below hb2).below (Below.refl _ w2).drew
    have b2 : Below B w w2.drew := (B1.out.trans (hb2.mono H1.out.size)).drew
    have s2 : DocStep w w2.drew := S1.out.trans ((docStep_below hb2).trans (docStep_below (Below.refl _ w2).drew))
    obtain ⟨p, c, _, c1, _, _, fz2, ho, hr, hp, hcap, hnil⟩ := h2.cells
    have f1 := fz2 1
    have hBw2 : B ≤ w2.drew.heap.size := h2.size
    have LB := HB.out _ b2
    have hal : Below w2.drew.heap.size w2.drew (w2.drew.alloc (.cells (pcl [Pc.mk (f, t) bs 0 0]).toArray 61)) := (Below.refl _ _).alloc (Nat.le_refl _) _
    have h3 := h2.below hal
    obtain ⟨V3, ho3, hr3, hn3⟩ := h3.obj
    have S0 : (∀ V : World, Below B w V → Lies V bp bs) := HB.out
    have hnew := heap_alloc_new w2.drew (.cells (pcl [Pc.mk (f, t) bs 0 0]).toArray 61)
    have hPA : PAt (w2.drew.alloc (.cells (pcl [Pc.mk (f, t) bs 0 0]).toArray 61)) (some ⟨w2.drew.heap.size, 0, none⟩) [Pc.mk (f, t) bs 0 0] :=
      ⟨fun _ => ⟨_, 0, rfl, fun j u hu => by rw [cell_of_row _ _ _ _ _ _ hnew, Nat.zero_add, List.getElem?_toArray]; exact hu⟩, fun e => by cases e⟩
    obtain rfl : V3 = .slice p L.length c := by
      have e := (hal.block R h2.lt).trans ho
      rw [ho3] at e
      simpa [rlObj] using e
    have hsz3 : B ≤ (w2.drew.alloc (.cells (pcl [Pc.mk (f, t) bs 0 0]).toArray 61)).heap.size := Nat.le_trans hBw2 hal.size
    obtain ⟨V4, w4, hap, hr4, hg4, hn4⟩ := appendP_run (w2.drew.alloc (.cells (pcl [Pc.mk (f, t) bs 0 0]).toArray 61)) B (.slice p L.length c) L hr3 (some ⟨w2.drew.heap.size, 0, none⟩) 1 [Pc.mk (f, t) bs 0 0] hPA (fun e => by cases e) (by simp; omega) hsz3 27
    have s4 := docStep_row hr3 hn3 hg4
    have ho4 := keepR ho3 hr3 hg4
    have b4 : Below B (w2.drew.alloc (.cells (pcl [Pc.mk (f, t) bs 0 0]).toArray 61)) w4 := (Below.refl B _).grown hg4 hsz3 (fun k hk => (hr3.lt k hk).1)
    obtain ⟨q4, cq4, rfl, _⟩ := own_pat hr4
    have hnn : L ++ [Pc.mk (f, t) bs 0 0] ≠ [] := by simp
    have R5 : Rl (w4.setCell ⟨R, 1, none⟩ (.slice q4 (L ++ [Pc.mk (f, t) bs 0 0]).length cq4)) B R n (L ++ [Pc.mk (f, t) bs 0 0]) (S + 1) Lo :=
      Rl.set ho4 hBR hr4 (fun e => absurd e hnn) (fun y hy => by
        rcases List.mem_append.1 hy with hy | hy
        · exact HOK.out y hy
        · obtain rfl := List.mem_singleton.1 hy
          exact ⟨hbl, by simp⟩)
    have b5 : Below B w (w4.setCell ⟨R, 1, none⟩ (.slice q4 (L ++ [Pc.mk (f, t) bs 0 0]).length cq4)) := (b2.trans ((hal.mono hBw2).trans b4)).setCell (p := ⟨R, 1, none⟩) hBR _
    have hR4 : Off w4 R ∧ ∃ cur ty m, w4.heap[R]? = some (.cells cur ty m) ∧ ty ≠ 49 ∧ ty ≠ 67 ∧ ty ≠ 32 := off_R ho4
    have s5 : DocStep w (w4.setCell ⟨R, 1, none⟩ (.slice q4 (L ++ [Pc.mk (f, t) bs 0 0]).length cq4)) := s2.trans ((docStep_below hal).trans (s4.trans (docStep_kept (grown_setCell w4 R 1 _) hR4.1 hR4.2)))
    have E : Hid (DocTo B R n (L ++ [Pc.mk (f, t) bs 0 0]) (S + 1) Lo 0 w (.returned (.int .i64 0)) (w4.setCell ⟨R, 1, none⟩ (.slice q4 (L ++ [Pc.mk (f, t) bs 0 0]).length cq4))) := ⟨rfl, R5, b5, s5⟩
    have x1 : w4.cell? ⟨R, 1, none⟩ = some (.slice p L.length c) := by rw [cell_of_row w4 R 1 _ _ _ ho4]; rfl
    have y1 := frozen_of_row w4 R 1 _ _ ho4
    have x3 : (w2.drew.alloc (.cells (pcl [Pc.mk (f, t) bs 0 0]).toArray 61)).cell? ⟨R, 1, none⟩ = some (.slice p L.length c) := by rw [cell_of_row _ R 1 _ _ _ ho3]; rfl
    have hbA := b2.trans (hal.mono hBw2)
    have hbB := hbA.trans b4
    clear R5 s5 hr4 hg4 hn4 s4 ho4 b4 hr3 hn3 ho3 h3 hPA hnew H1 S1 B1 CN WY h2 s2 hr hp ho
    go_wp2
    refine rg_calm (m := 15) (S := fun w' => Below B w w') (by kernel_rfl) rfl ?_
    refine rgd_pure 0 (some 33) rfl rfl (.pointer (some ⟨R, 0, none⟩)) (by kernel_rfl) (by kernel_rfl) (by kernel_rfl) (fun _ _ _ _ h => h) (by kernel_rfl) (fun _ => by kernel_rfl) b2 ?_
    refine rgd_pure 1 (some 34) rfl rfl (.pointer (some ⟨R, 0, none⟩)) (by kernel_rfl) (by kernel_rfl) (by kernel_rfl) (fun _ _ _ _ h => h) (by kernel_rfl) (fun _ => by kernel_rfl) b2 ?_
    refine rgd_pure 2 (some 35) rfl rfl (.pointer (some ⟨R, 0, none⟩)) (by kernel_rfl) (by kernel_rfl) (by kernel_rfl) (fun _ _ _ _ h => h) (by kernel_rfl) (fun _ => by kernel_rfl) b2 ?_
    refine rgd_pure 3 (some 36) rfl rfl (.pointer (some ⟨R, 1, none⟩)) (by kernel_rfl) (by kernel_rfl) (by kernel_rfl) (fun _ _ _ _ h => h) (by kernel_rfl) (fun _ => by kernel_rfl) b2 ?_
    refine rgd_pure 5 (some 38) rfl rfl (.int .i64 f) (by kernel_rfl) (by kernel_rfl) (by kernel_rfl) (fun _ _ _ _ h => h) (by kernel_rfl) (fun _ => by kernel_rfl) b2 ?_
    refine rgd_pure 6 (some 39) rfl rfl (.int .i64 t) (by kernel_rfl) (by kernel_rfl) (by kernel_rfl) (fun _ _ _ _ h => h) (by kernel_rfl) (fun _ => by kernel_rfl) b2 ?_
    refine rgd_pure 7 (some 40) rfl rfl (.slice bp bs.length bc) (by kernel_rfl) (by kernel_rfl) (by kernel_rfl) (fun _ _ _ _ h => h) (by kernel_rfl) (fun _ => by kernel_rfl) b2 ?_
    refine rgd_pureS 8 (some 41) rfl rfl (.string ⟨bs.toArray⟩) (by kernel_rfl) (by kernel_rfl) (by kernel_rfl) (fun _ _ _ _ h => h) (by kernel_rfl) (fun V hV => exec_conv _ _ _ rfl _ _ (by kernel_rfl) ((S0 V hV).convert (P := Try.prog) bs.length rfl bc 30 5 9 Try.underlying30 Try.underlying5 Try.underlying9)) b2 ?_
    refine rgd_pure 9 (some 42) rfl rfl (.agg #[.int .i64 f, .int .i64 t, .string ⟨bs.toArray⟩, .int .i64 0, .int .u8 0]) (by kernel_rfl) (by kernel_rfl) (by kernel_rfl) (fun _ _ _ _ h => h) (by kernel_rfl) (fun _ => by kernel_rfl) b2 ?_
    rename_i Q1 hK1
    refine rgd_acts 4 10 (some 37) (some 43) (by kernel_rfl) rfl rfl (by kernel_rfl) (.slice p L.length c) w2.drew (exec_load1 _ _ rfl Try.underlying27 rfl ⟨R, 1, none⟩ _ (by kernel_rfl) c1) b2 rfl rfl (by kernel_rfl) (.slice (some ⟨w2.drew.heap.size, 0, none⟩) 1 1) (w2.drew.alloc (.cells (pcl [Pc.mk (f, t) bs 0 0]).toArray 61)) (by kernel_rfl) hbA ?_ ?_
    · (refine rgd_run 10 (some 43) (by kernel_rfl) rfl rfl (by kernel_rfl) (.slice (some ⟨w2.drew.heap.size, 0, none⟩) 1 1) (w2.drew.alloc (.cells (pcl [Pc.mk (f, t) bs 0 0]).toArray 61)) (by kernel_rfl) hbA ?_; refine rgd_run 11 (some 44) (by kernel_rfl) rfl rfl (by kernel_rfl) (.slice q4 (L ++ [Pc.mk (f, t) bs 0 0]).length cq4) w4 (exec_push _ _ rfl _ _ _ (by kernel_rfl) (by kernel_rfl) hap) hbB ?_; refine rgd_pure 12 (some 45) rfl rfl (.pointer (some ⟨R, 0, none⟩)) (by kernel_rfl) (by kernel_rfl) (by kernel_rfl) (fun _ _ _ _ h => h) (by kernel_rfl) (fun _ => by kernel_rfl) hbB ?_; refine rgd_pure 13 (some 46) rfl rfl (.pointer (some ⟨R, 1, none⟩)) (by kernel_rfl) (by kernel_rfl) (by kernel_rfl) (fun _ _ _ _ h => h) (by kernel_rfl) (fun _ => by kernel_rfl) hbB ?_; refine rgd_do 14 none (by kernel_rfl) rfl rfl (by kernel_rfl) _ (exec_storeSl _ _ _ rfl sizePs ⟨R, 1, none⟩ q4 (L ++ [Pc.mk (f, t) bs 0 0]).length cq4 _ (by kernel_rfl) (by kernel_rfl) x1 y1) b5 ?_; refine wpAnyH_done (by kernel_rfl) (hK1 _ _ ?_) _; simp only [Act.put, List.setIfInBounds_toArray, List.set_cons_zero, List.set_cons_succ]; go_wp2; go_ret; exact E.out)
    · (refine rgd_run 4 (some 37) (by kernel_rfl) rfl rfl (by kernel_rfl) (.slice p L.length c) (w2.drew.alloc (.cells (pcl [Pc.mk (f, t) bs 0 0]).toArray 61)) (exec_load1 _ _ rfl Try.underlying27 rfl ⟨R, 1, none⟩ _ (by kernel_rfl) x3) hbA ?_; refine rgd_run 11 (some 44) (by kernel_rfl) rfl rfl (by kernel_rfl) (.slice q4 (L ++ [Pc.mk (f, t) bs 0 0]).length cq4) w4 (exec_push _ _ rfl _ _ _ (by kernel_rfl) (by kernel_rfl) hap) hbB ?_; refine rgd_pure 12 (some 45) rfl rfl (.pointer (some ⟨R, 0, none⟩)) (by kernel_rfl) (by kernel_rfl) (by kernel_rfl) (fun _ _ _ _ h => h) (by kernel_rfl) (fun _ => by kernel_rfl) hbB ?_; refine rgd_pure 13 (some 46) rfl rfl (.pointer (some ⟨R, 1, none⟩)) (by kernel_rfl) (by kernel_rfl) (by kernel_rfl) (fun _ _ _ _ h => h) (by kernel_rfl) (fun _ => by kernel_rfl) hbB ?_; refine rgd_do 14 none (by kernel_rfl) rfl rfl (by kernel_rfl) _ (exec_storeSl _ _ _ rfl sizePs ⟨R, 1, none⟩ q4 (L ++ [Pc.mk (f, t) bs 0 0]).length cq4 _ (by kernel_rfl) (by kernel_rfl) x1 y1) b5 ?_; refine wpAnyH_done (by kernel_rfl) (hK1 _ _ ?_) _; simp only [Act.put, List.setIfInBounds_toArray, List.set_cons_zero, List.set_cons_succ]; go_wp2; go_ret; exact E.out)

end Go.Proofs.Ytfdiclamjgldnaa
