/- The document's lanes: Double. -/
import Derived.Test.YtfdiclamjgldnaaLnDoc8
namespace Go.Proofs.Ytfdiclamjgldnaa
open Go Go.RowKit Go.Conc
set_option linter.unusedVariables false

def DoubleD (B R : Nat) (n : Int) (L : List Pc) (S Lo : Int) (d : Wy) (K : Int) (w : World) (e : Ending) (w' : World) : Prop :=
  (∃ r, WhyNot L n d K r ∧ DocTo B R n L S Lo r w e w') ∨
  (InN n d ∧ ∃ x, 0 ≤ K ∧ (on d L)[K.toNat]? = some x ∧ (if 40 ≤ (on d L).length then DocTo B R n L S Lo 8 w e w' else DocTo B R n (L ++ [x]) S Lo 0 w e w'))
/-- what the last statement of Double leaves -/
theorem double_tail (B R : Nat) (n : Int) (L : List Pc) (S Lo : Int) (f t K : Int) (w w3 : World) (h3 : Rl w3 B R n L S Lo) (hl : L.length ≤ 99) (hb : Below B w w3) (hs : DocStep w w3) (i : Nat) (hat : AtW L (f, t) K.toNat i) (x : Pc) (hx : (on (f, t) L)[K.toNat]? = some x) (p : Option Addr) (c : Nat) (c1 : w3.cell? ⟨R, 1, none⟩ = some (.slice p L.length c)) :
    i < L.length ∧ ∃ g, p = some ⟨g, 0, none⟩ ∧ w3.cell? ⟨g, i * 5, none⟩ = some (.int .i64 x.k.1) ∧ w3.cell? ⟨g, i * 5 + 1, none⟩ = some (.int .i64 x.k.2) ∧ w3.cell? ⟨g, i * 5 + 2, none⟩ = some (.string ⟨x.b.toArray⟩) ∧ w3.cell? ⟨g, i * 5 + 3, none⟩ = some (.int .i64 (x.at_ : Int)) ∧ w3.cell? ⟨g, i * 5 + 4, none⟩ = some (.int .u8 (x.by_.toNat : Int)) ∧
    ∃ q4 cq4 w4, (Builtin.append_ #[27, 27] 27 #[.slice p L.length c, .slice (some ⟨w3.heap.size, 0, none⟩) 1 1]).run Try.prog (w3.alloc (.cells #[.int .i64 x.k.1, .int .i64 x.k.2, .string ⟨x.b.toArray⟩, .int .i64 (x.at_ : Int), .int .u8 (x.by_.toNat : Int)] 61)) = .ok (.slice q4 (L.length + 1) cq4) w4 ∧
      w4.cell? ⟨R, 1, none⟩ = some (.slice p L.length c) ∧ w4.frozen? ⟨R, 1, none⟩ = false ∧ DocTo B R n (L ++ [x]) S Lo 0 w (.returned (.int .i64 0)) (w4.setCell ⟨R, 1, none⟩ (.slice q4 (L.length + 1) cq4)) := by
  obtain ⟨p', c', _, c1', _, _, _, ho, hr, hp, hcap, hnil⟩ := h3.cells
  rw [c1] at c1'
  simp only [Option.some.injEq, Value.slice.injEq, true_and] at c1'
  obtain ⟨rfl, rfl⟩ := c1'
  obtain ⟨hi, hik, hio⟩ := hat
  have hxi : (on (f, t) L)[K.toNat]? = some L[i] := atW_get ⟨hi, hik, hio⟩ L[i] (List.getElem?_eq_getElem hi)
  have hxx : L[i] = x := by rw [hxi] at hx; exact Option.some.inj hx
  obtain ⟨g, cap, hq, hBg⟩ := ownV_someP hr (by omega)
  simp only [Value.slice.injEq] at hq
  obtain ⟨rfl, _, rfl⟩ := hq
  have cell : ∀ j, j < 5 → w3.cell? ⟨g, i * 5 + j, none⟩ = (x.cs)[j]? := fun j hj => by rw [hr.cellAt (i * 5 + j) (by omega), pcl, flat_get Pc.cs_len L i hi j hj, hxx]
  refine ⟨hi, g, rfl, cell 0 (by omega), cell 1 (by omega), cell 2 (by omega), cell 3 (by omega), cell 4 (by omega), ?_⟩
  have hal : Below w3.heap.size w3 (w3.alloc (.cells (pcl [x]).toArray 61)) := (Below.refl _ _).alloc (Nat.le_refl _) _
  have hnew := heap_alloc_new w3 (.cells (pcl [x]).toArray 61)
  have hPA : PAt (w3.alloc (.cells (pcl [x]).toArray 61)) (some ⟨w3.heap.size, 0, none⟩) [x] :=
    ⟨fun _ => ⟨_, 0, rfl, fun j u hu => by rw [cell_of_row _ _ _ _ _ _ hnew, Nat.zero_add, List.getElem?_toArray]; exact hu⟩, fun e => by cases e⟩
  have hB3 : B ≤ w3.heap.size := h3.size
  have hr3 := hr.alloc (.cells (pcl [x]).toArray 61)
  have ho3 : (w3.alloc (.cells (pcl [x]).toArray 61)).heap[R]? = _ := (hal.block R h3.lt).trans ho
  obtain ⟨V4, w4, hap, hr4, hg4, hn4⟩ := appendP_run (w3.alloc (.cells (pcl [x]).toArray 61)) B _ L hr3 (some ⟨w3.heap.size, 0, none⟩) 1 [x] hPA (fun e => by cases e) (by simp; omega) (Nat.le_trans hB3 hal.size) 27
  have ho4 := keepR ho3 hr3 hg4
  have b4 : Below B (w3.alloc (.cells (pcl [x]).toArray 61)) w4 := (Below.refl B _).grown hg4 (Nat.le_trans hB3 hal.size) (fun k hk => (hr3.lt k hk).1)
  have s4 := docStep_row hr3 (fun e => by subst e; simp at hi) hg4
  obtain ⟨q4, cq4, rfl, _⟩ := own_pat hr4
  have hln : (L ++ [x]).length = L.length + 1 := by simp
  have hxok : x.Ok := by rw [← hxx]; exact h3.ok _ (List.getElem_mem hi)
  have R5 := Rl.set ho4 h3.base hr4 (fun e => by simp at e) (fun y hy => by
    rcases List.mem_append.1 hy with hy | hy
    · exact h3.ok y hy
    · obtain rfl := List.mem_singleton.1 hy
      exact hxok)
  rw [hln] at hap R5
  obtain ⟨z1, z2⟩ := off_R ho4
  refine ⟨q4, cq4, w4, hap, by rw [cell_of_row w4 R 1 _ _ _ ho4]; rfl, frozen_of_row w4 R 1 _ _ ho4, rfl, R5, ?_, ?_⟩
  · exact (hb.trans ((hal.mono hB3).trans b4)).setCell (p := ⟨R, 1, none⟩) h3.base _
  · exact hs.trans ((docStep_below hal).trans (s4.trans (docStep_kept (grown_setCell w4 R 1 _) z1 z2)))
theorem step_run {P : Program} {ops : Array Oper} {o : Oper} {a : Act} {w : World} {K : Act → World → Prop} {E : Prop} {Q : Exit → Act → World → Prop} {t : TypeId} (hg : o.guard = none) (s x : Operand) (ho : o.op = .call { callee := .builtin .append, args := #[s, x], argTypes := #[t, t] })
    (u v : Value) (hs : a.eval s = u) (hx : a.eval x = v) (v' : Value) (w' : World) (hrun : (Builtin.append_ #[t, t] o.type #[u, v]).run P w = .ok v' w') (h : K (a.put o.dst v') w') :
    if Region.wanted o (yielded ops a.tmps) = true then Oper.wp P o a w K Q else E := by
  have hw : Region.wanted o (yielded ops a.tmps) = true := by simp [Region.wanted, hg]
  rw [if_pos hw]
  unfold Oper.wp
  simp [execOp, ho, resolve, invoke, builtin, hs, hx, hrun, Result.andThen]
  exact h
set_option maxHeartbeats 4000000 in
set_option maxRecDepth 100000 in
theorem refDouble_is (B R : Nat) (n : Int) (L : List Pc) (S Lo : Int) (f t K : Int) (w : World) (h : Rl w B R n L S Lo) (hl : L.length ≤ 99) :
    Calls Try.prog 23 #[.pointer (some ⟨R, 0, none⟩), .int .i64 f, .int .i64 t, .int .i64 K] w (DoubleD B R n L S Lo (f, t) K w) := by
  have PK := Lib.hid (refPeek_any B R n L S Lo f t K w h (by omega))
  have H := Lib.hid h
  have hB := h.size
  clear h
  go_enter Try.func23, Try.ntmps23
  go_wp2_with fail
  refine PK.out.mono ?_
  rintro e w1 ⟨hb1, hcase⟩
  have h1 := H.out.below hb1
  rcases hcase with ⟨r, hr, rfl⟩ | ⟨hk, x, p, c, hK, hx, rfl, _, _, _⟩
  · have E : Hid (DoubleD B R n L S Lo (f, t) K w (.returned (.int .i64 r)) w1) := .inl ⟨r, hr, rfl, h1, hb1.mono hB, docStep_below hb1⟩
    have hc := whyNot_code hr
    clear H PK h1 hb1 hr
    rcases hc with rfl | rfl
    all_goals
      go_wp2
      go_ret
      exact E.out
  · have CN := Lib.hid (refCount_is B R n L S Lo f t w1 h1 (by omega))
    have HX := Lib.hid hx
    have B1 := Lib.hid hb1; have H1 := Lib.hid h1
    clear hx h1 hb1 H PK
    by_cases h40 : 40 ≤ (on (f, t) L).length
    · have h40I : (40 : Int) ≤ ((on (f, t) L).length : Nat) := by omega
      have H40 := Lib.hid h40
      clear h40
      generalize hm : (on (f, t) L).length = m at CN h40I
      have HM := Lib.hid hm
      clear hm
      go_wp2_with fail
      refine CN.out.mono ?_
      rintro e w2 ⟨rfl, hb2⟩
      have E : Hid (DoubleD B R n L S Lo (f, t) K w (.returned (.int .i64 8)) w2) := .inr ⟨hk, x, hK, HX.out, by
        rw [if_pos H40.out]
        exact ⟨rfl, H1.out.below hb2, (B1.out.mono hB).trans (hb2.mono (Nat.le_trans hB B1.out.size)), (docStep_below B1.out).trans (docStep_below hb2)⟩⟩
      clear hb2 CN
      go_wp2
      go_ret
      exact E.out
    · have h40I : ¬ (40 : Int) ≤ ((on (f, t) L).length : Nat) := by omega
      have H40 := Lib.hid h40
      have hlt : K.toNat < (on (f, t) L).length := (List.getElem?_eq_some_iff.1 HX.out).1
      have HLT := Lib.hid hlt
      clear h40 hlt
      generalize hm : (on (f, t) L).length = m at CN h40I
      have HM := Lib.hid hm
      clear hm
      go_wp2_with fail
      refine CN.out.mono ?_
      rintro e w2 ⟨rfl, hb2⟩
      have h2 := H1.out.below hb2
      obtain ⟨p2, c2, _, c1, _⟩ := h2.cells
      have FI := Lib.hid (fun V (hV : Below w2.heap.size w2 V) => refFind_is B R n L S Lo f t K V (h2.below hV) (by omega))
      have TL : Hid (∀ V w3 r, Below w2.heap.size w2 V → FindR L (f, t) K r → Below V.heap.size V w3 → ∃ i : Nat, r = i ∧ i < L.length ∧ ∃ g, p2 = some ⟨g, 0, none⟩ ∧ (w3.alloc (.cells #[.int .i64 x.k.1, .int .i64 x.k.2, .string ⟨x.b.toArray⟩, .int .i64 (x.at_ : Int), .int .u8 (x.by_.toNat : Int)] 61)).cell? ⟨R, 1, none⟩ = some (.slice (some ⟨g, 0, none⟩) L.length c2) ∧ w3.cell? ⟨R, 1, none⟩ = some (.slice (some ⟨g, 0, none⟩) L.length c2) ∧ w3.cell? ⟨g, i * 5, none⟩ = some (.int .i64 x.k.1) ∧ w3.cell? ⟨g, i * 5 + 1, none⟩ = some (.int .i64 x.k.2) ∧ w3.cell? ⟨g, i * 5 + 2, none⟩ = some (.string ⟨x.b.toArray⟩) ∧ w3.cell? ⟨g, i * 5 + 3, none⟩ = some (.int .i64 (x.at_ : Int)) ∧ w3.cell? ⟨g, i * 5 + 4, none⟩ = some (.int .u8 (x.by_.toNat : Int)) ∧
          ∃ q4 cq4 w4, (Builtin.append_ #[27, 27] 27 #[.slice (some ⟨g, 0, none⟩) L.length c2, .slice (some ⟨w3.heap.size, 0, none⟩) 1 1]).run Try.prog (w3.alloc (.cells #[.int .i64 x.k.1, .int .i64 x.k.2, .string ⟨x.b.toArray⟩, .int .i64 (x.at_ : Int), .int .u8 (x.by_.toNat : Int)] 61)) = .ok (.slice q4 (L.length + 1) cq4) w4 ∧
            w4.cell? ⟨R, 1, none⟩ = some (.slice (some ⟨g, 0, none⟩) L.length c2) ∧ w4.frozen? ⟨R, 1, none⟩ = false ∧ DoubleD B R n L S Lo (f, t) K w (.returned (.int .i64 0)) (w4.setCell ⟨R, 1, none⟩ (.slice q4 (L.length + 1) cq4))) := by
        intro V w3 r hV hfr hb3
        obtain ⟨i, rfl, _, hat2⟩ : ∃ i : Nat, r = i ∧ 0 ≤ K ∧ AtW L (f, t) K.toNat i := by
          rcases hfr with q | ⟨_, q⟩
          · exact q
          · have := HLT.out; omega
        have hb23 : Below w2.heap.size w2 w3 := hV.trans (hb3.mono hV.size)
        have h3 := h2.below hb23
        have c3 := (hb23.cell (p := ⟨R, 1, none⟩) h2.lt).trans c1
        have hB2 := h2.size
        obtain ⟨hi, g, rfl, e0, e1, e2, e3, e4, q4, cq4, w4, r4, x4, y4, hd⟩ := double_tail B R n L S Lo f t K w w3 h3 hl ((B1.out.mono hB).trans ((hb2.mono (Nat.le_trans hB B1.out.size)).trans (hb23.mono hB2))) ((docStep_below B1.out).trans ((docStep_below hb2).trans (docStep_below hb23))) i hat2 x HX.out p2 c2 c3
        refine ⟨i, rfl, hi, g, rfl, (((Below.refl _ w3).alloc (Nat.le_refl _) _).cell (p := ⟨R, 1, none⟩) h3.lt).trans c3, c3, e0, e1, e2, e3, e4, q4, cq4, w4, r4, x4, y4, .inr ⟨hk, x, hK, HX.out, ?_⟩⟩
        rw [if_neg H40.out]
        exact hd
      clear h2 hb2 CN H1 B1
      go_wp2
      go_region_law (first
        | (go_simp; go_at_call 34; refine (FI.out _ (by first | exact (Below.refl _ _).drew | exact Below.refl _ _)).mono ?_; rintro e w3 ⟨r, rfl, hfr, hb3⟩; obtain ⟨i, rfl, hi, g, rfl, e6, e5, e0, e1, e2, e3, e4, q4, cq4, w4, r4, x4, y4, hd⟩ := TL.out _ w3 r (by first | exact (Below.refl _ _).drew | exact Below.refl _ _) hfr hb3; have E := Lib.hid hd; have hiI : (i : Int) < L.length := by omega)
        | (refine step_run rfl _ _ rfl _ _ rfl rfl _ _ r4 ?_))
      all_goals
        clear hd hfr hb3 FI TL
        go_wp2
        go_ret
        exact E.out
end Go.Proofs.Ytfdiclamjgldnaa
