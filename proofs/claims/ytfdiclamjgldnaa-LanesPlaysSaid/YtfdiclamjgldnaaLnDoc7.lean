/- The document's lanes: Peek in all cases; Spoil. -/
import Derived.Test.YtfdiclamjgldnaaLnDoc6
namespace Go.Proofs.Ytfdiclamjgldnaa
open Go Go.RowKit Go.Conc
set_option linter.unusedVariables false

/-- why there is no k-th -/
def WhyNot (L : List Pc) (n : Int) (d : Wy) (K r : Int) : Prop := (r = 15 ∧ ¬ InN n d) ∨ (r = 10 ∧ InN n d ∧ (K < 0 ∨ (on d L).length ≤ K))
def PeekAny (L : List Pc) (n : Int) (d : Wy) (K : Int) (w : World) (e : Ending) (w' : World) : Prop :=
  Below w.heap.size w w' ∧ ((∃ r, WhyNot L n d K r ∧ e = .returned (.tuple #[.slice none 0 0, .int .i64 r])) ∨
    (InN n d ∧ ∃ x p c, 0 ≤ K ∧ (on d L)[K.toNat]? = some x ∧ e = .returned (.tuple #[.slice p x.b.length c, .int .i64 0]) ∧ Lies w' p (seenP x) ∧ x.b.length ≤ c ∧ (p = none → x.b = [])))
theorem refPeek_any (B R : Nat) (n : Int) (L : List Pc) (S Lo : Int) (f t K : Int) (w : World) (h : Rl w B R n L S Lo) (hl : L.length ≤ 100) :
    Calls Try.prog 25 #[.pointer (some ⟨R, 0, none⟩), .int .i64 f, .int .i64 t, .int .i64 K] w (PeekAny L n (f, t) K w) := by
  by_cases hk : InN n (f, t)
  · refine (refPeek_is B R n L S Lo f t K w h hl hk).mono ?_
    rintro e w' ⟨hb, ⟨rfl, ho⟩ | hx⟩
    · exact ⟨hb, .inl ⟨10, .inr ⟨rfl, hk, ho⟩, rfl⟩⟩
    · exact ⟨hb, .inr ⟨hk, hx⟩⟩
  · obtain ⟨_, _, c0, _⟩ := h.cells
    have WY := Lib.hid (refWay_no R n f t w c0 hk)
    have E : Hid (PeekAny L n (f, t) K w (.returned (.tuple #[.slice none 0 0, .int .i64 15])) w) := ⟨Below.refl _ _, .inl ⟨15, .inl ⟨rfl, hk⟩, rfl⟩⟩
    clear h c0
    go_enter Try.func25, Try.ntmps25
    go_wp2_with fail
    refine WY.out.mono ?_
    rintro e w' ⟨rfl, rfl⟩
    go_wp2
    go_ret2
    exact E.out
theorem whyNot_code {L : List Pc} {n : Int} {d : Wy} {K r : Int} (h : WhyNot L n d K r) : r = 15 ∨ r = 10 := by
  rcases h with ⟨h, _⟩ | ⟨h, _⟩
  · exact .inl h
  · exact .inr h
/-- Spoil, as the document has it -/
def SpoilD (B R : Nat) (n : Int) (L : List Pc) (S Lo : Int) (d : Wy) (K at0 : Int) (by0 : UInt8) (w : World) (e : Ending) (w' : World) : Prop :=
  (∃ r, WhyNot L n d K r ∧ DocTo B R n L S Lo r w e w') ∨
  (InN n d ∧ ∃ x i, 0 ≤ K ∧ (on d L)[K.toNat]? = some x ∧ AtW L d K.toNat i ∧ DocTo B R n (L.set i ⟨d, x.b, (max at0 0).toNat, by0⟩) S Lo 0 w e w')
theorem pcl_set2 (L : List Pc) (i : Nat) (hi : i < L.length) (a b : Value) (y : Pc) (h3 : y.cs = ((L[i]).cs.set 3 a).set 4 b) : ((pcl L).set (i * 5 + 3) a).set (i * 5 + 4) b = pcl (L.set i y) := by
  unfold pcl
  rw [set_split L i hi y]
  have e : L = L.take i ++ L[i] :: L.drop (i + 1) := by rw [← List.drop_eq_getElem_cons hi, List.take_append_drop]
  have hlen : ((L.take i).flatMap Pc.cs).length = i * 5 := by rw [flat_len Pc.cs_len, List.length_take]; congr 1; omega
  conv => lhs; rw [e]
  rw [List.flatMap_append, List.flatMap_cons, List.flatMap_append, List.flatMap_cons, List.set_append_right _ _ (by omega), List.set_append_right _ _ (by omega), hlen, Nat.add_sub_cancel_left, Nat.add_sub_cancel_left,
    List.set_append_left _ _ (by rw [Pc.cs_len]; omega), List.set_append_left _ _ (by rw [List.length_set, Pc.cs_len]; omega), h3]
set_option maxHeartbeats 4000000 in
set_option maxRecDepth 100000 in
theorem refSpoil_is (B R : Nat) (n : Int) (L : List Pc) (S Lo : Int) (f t K at0 : Int) (by0 : UInt8) (w : World) (h : Rl w B R n L S Lo) (hl : L.length ≤ 100) (hat : -9223372036854775808 ≤ at0 ∧ at0 ≤ 9223372036854775807) :
    Calls Try.prog 24 #[.pointer (some ⟨R, 0, none⟩), .int .i64 f, .int .i64 t, .int .i64 K, .int .i64 at0, .int .u8 (by0.toNat : Int)] w (SpoilD B R n L S Lo (f, t) K at0 by0 w) := by
  have PK := Lib.hid (refPeek_any B R n L S Lo f t K w h hl)
  have H := Lib.hid h
  have hB := h.size
  clear h
  go_enter Try.func24, Try.ntmps24
  go_wp2_with fail
  refine PK.out.mono ?_
  rintro e w1 ⟨hb1, hcase⟩
  have h1 := H.out.below hb1
  rcases hcase with ⟨r, hr, rfl⟩ | ⟨hk, x, p, c, hK, hx, rfl, hlies, _⟩
  · have E : Hid (SpoilD B R n L S Lo (f, t) K at0 by0 w (.returned (.int .i64 r)) w1) := .inl ⟨r, hr, rfl, h1, hb1.mono hB, docStep_below hb1⟩
    have hc := whyNot_code hr
    clear H PK h1 hb1 hr
    rcases hc with rfl | rfl
    all_goals
      go_wp2
      go_ret
      exact E.out
  · have FI := Lib.hid (refFind_is B R n L S Lo f t K w1 h1 hl)
    have HX := Lib.hid hx
    have B1 := Lib.hid hb1; have H1 := Lib.hid h1
    clear hlies hx h1 hb1 H PK
    go_wp2_with fail
    refine FI.out.mono ?_
    rintro e w2 ⟨r, rfl, hfr, hb2⟩
    have hlt : K.toNat < (on (f, t) L).length := (List.getElem?_eq_some_iff.1 HX.out).1
    obtain ⟨i, rfl, _, hat2⟩ : ∃ i : Nat, r = i ∧ 0 ≤ K ∧ AtW L (f, t) K.toNat i := by
      rcases hfr with q | ⟨_, q⟩
      · exact q
      · omega
    have h2 := H1.out.below hb2
    obtain ⟨q, c2, _, c1, _, _, fz, ho, hr, hp, hcap, _⟩ := h2.cells
    obtain ⟨hi, hik, hio⟩ := hat2
    obtain ⟨g, cap, hq, hBg⟩ := ownV_someP hr (by omega)
    simp only [Value.slice.injEq] at hq
    obtain ⟨rfl, _, rfl⟩ := hq
    have hxi : (on (f, t) L)[K.toNat]? = some L[i] := atW_get ⟨hi, hik, hio⟩ L[i] (List.getElem?_eq_getElem hi)
    have hxx : L[i] = x := by rw [hxi] at HX; exact Option.some.inj HX.out
    have hlr : i * 5 + 4 < L.length * 5 := by omega
    have cell : ∀ j, j < 5 → w2.cell? ⟨g, i * 5 + j, none⟩ = (L[i]).cs[j]? := fun j hj => by rw [hr.cellAt (i * 5 + j) (by omega), pcl, flat_get Pc.cs_len L i hi j hj]
    have x3 := cell 3 (by omega); have x4 := cell 4 (by omega)
    have y3 := hr.frozenAt (i * 5 + 3); have y4 := hr.frozenAt (i * 5 + 4)
    rw [hxx] at x3 x4
    obtain ⟨M, hM⟩ : ∃ M : Nat, max at0 0 = (M : Int) := ⟨(max at0 0).toNat, by omega⟩
    have hRg : R ≠ g := by
      intro e
      rcases hr.2 with ⟨q2, _⟩ | ⟨g', cap', cur, q1, _, hgc, _⟩
      · simp at q2
      · simp only [Value.slice.injEq, Option.some.injEq, Addr.mk.injEq, and_true, true_and] at q1
        obtain ⟨rfl, _⟩ := q1
        rw [← e, ho] at hgc
        injection hgc with e; injection e with _ e2 _; revert e2; decide
    have s1 := hr.stored (i * 5 + 3) (.int .i64 (M : Int))
    have s2 := s1.1.stored (i * 5 + 4) (.int .u8 (by0.toNat : Int))
    have E : Hid (SpoilD B R n L S Lo (f, t) K at0 by0 w (.returned (.int .i64 0)) ((w2.setCell ⟨g, i * 5 + 3, none⟩ (.int .i64 (M : Int))).setCell ⟨g, i * 5 + 4, none⟩ (.int .u8 (by0.toNat : Int)))) := by
      have gg := grown_trans' s1.2 s2.2
      have hLne : L ≠ [] := by intro e; subst e; simp at hi
      have row : ((w2.setCell ⟨g, i * 5 + 3, none⟩ (.int .i64 (M : Int))).setCell ⟨g, i * 5 + 4, none⟩ (.int .u8 (by0.toNat : Int))).ownsRow B 61 5 (.slice (some ⟨g, 0, none⟩) (L.set i ⟨(f, t), x.b, (max at0 0).toNat, by0⟩).length c2) (L.set i ⟨(f, t), x.b, (max at0 0).toNat, by0⟩).length (pcl (L.set i ⟨(f, t), x.b, (max at0 0).toNat, by0⟩)) := by
        rw [← pcl_set2 L i hi (.int .i64 (M : Int)) (.int .u8 (by0.toNat : Int)) ⟨(f, t), x.b, (max at0 0).toNat, by0⟩ (by rw [hM, hxx, ← hxx, hxx]; have := hik; rw [hxx] at this; simp [Pc.cs, this]), List.length_set]
        exact s2.1
      refine .inr ⟨hk, x, i, hK, HX.out, ⟨hi, hik, hio⟩, rfl, ⟨⟨_, (gg.block R h2.lt (fun e => hRg (Option.some.inj e))).trans ho, ?_, fun e => ?_⟩, h2.base, fun y hy => ?_⟩, ?_, ?_⟩
      · rw [List.length_set] at row ⊢
        exact row
      · have := congrArg List.length e
        rw [List.length_set] at this
        simp only [List.length_nil] at this
        omega
      · rcases List.mem_or_eq_of_mem_set hy with hy | rfl
        · exact h2.ok y hy
        · have := h2.ok L[i] (List.getElem_mem hi)
          rw [hxx] at this
          refine ⟨this.1, ?_⟩
          show (((max at0 0).toNat : Nat) : Int) ≤ 9223372036854775807
          omega
      · exact (B1.out.mono hB).trans ((hb2.mono (Nat.le_trans hB B1.out.size)).trans ((((Below.refl B w2).setCell (p := ⟨g, i * 5 + 3, none⟩) hBg _).setCell (p := ⟨g, i * 5 + 4, none⟩) hBg _)))
      · refine (docStep_below B1.out).trans ((docStep_below hb2).trans ?_)
        obtain ⟨o1, o2⟩ := off_row hr hLne
        exact docStep_kept gg o1 o2
    have hiI : (i : Int) < L.length := by omega
    have c1' : (w2.setCell ⟨g, i * 5 + 3, none⟩ (.int .i64 (M : Int))).cell? ⟨R, 1, none⟩ = some (.slice (some ⟨g, 0, none⟩) L.length c2) := (World.cell?_of_block (w := w2) (Below.heap_setCell w2 ⟨g, i * 5 + 3, none⟩ _ R hRg)).trans c1
    have x4' : (w2.setCell ⟨g, i * 5 + 3, none⟩ (.int .i64 (M : Int))).cell? ⟨g, i * 5 + 4, none⟩ = some (.int .u8 (x.by_.toNat : Int)) := by
      rw [World.cell?_setCell_other _ _ _ _ (fun q : (⟨g, i * 5 + 3, none⟩ : Addr) = ⟨g, i * 5 + 4, none⟩ => by injection q with _ q2 _; omega)]
      exact x4
    clear s1 s2 hr hp ho h2 FI H1 B1 hb2 cell hxi hfr fz
    simp only [Pc.cs] at x3 x4
    by_cases h0 : 0 ≤ at0
    · have hM2 : (M : Int) = at0 := by omega
      rw [hM2] at E c1' x4'
      clear hM hM2
      go_wp2
      go_ret
      exact E.out
    · have hM2 : (M : Int) = 0 := by omega
      have h1 : at0 < 0 := by omega
      rw [hM2] at E c1' x4'
      clear hM hM2
      go_wp2
      go_ret
      exact E.out
end Go.Proofs.Ytfdiclamjgldnaa
