/- The statement DocsJoins, proved for every input that its row reads: part 34 of 54. -/
import Derived.Test.YtdnkhcbglmfjbaaDoorPackDocsJoins33
import Derived.Test.YtdnkhcbglmfjbaaDoorStsPlain
/- docs.Join: what two states are as one, plain. -/
namespace Go.Proofs.YtdnkhcbglmfjbaaDoor
open Go Go.RowKit
set_option linter.unusedVariables false
set_option maxRecDepth 1000000

theorem ltW_irr (x : Wr) : ltW x x = false := by
  cases e : ltW x x with
  | false => rfl
  | true =>
    rw [ltW_iff] at e
    rw [lin_B.irr] at e
    simp at e
/-- two of which none stands ahead have one key -/
theorem ltW_key {x y : Wr} (h1 : ltW x y = false) (h2 : ltW y x = false) : x.doc = y.doc ∧ x.field = y.field ∧ x.rep = y.rep ∧ x.n = y.n := by
  have h1' : ¬ (ltW x y = true) := by rw [h1]; simp
  have h2' : ¬ (ltW y x = true) := by rw [h2]; simp
  rw [ltW_iff] at h1' h2'
  have hd : x.doc = y.doc := by
    apply lin_B.tot
    · cases e : ltB x.doc y.doc
      · rfl
      · exact absurd (.inl e) h1'
    · cases e : ltB y.doc x.doc
      · rfl
      · exact absurd (.inl e) h2'
  have h3 : ¬ (x.field < y.field ∨ (x.field = y.field ∧ (x.rep < y.rep ∨ (x.rep = y.rep ∧ x.n < y.n)))) := fun e => h1' (.inr ⟨hd, e⟩)
  have h4 : ¬ (y.field < x.field ∨ (y.field = x.field ∧ (y.rep < x.rep ∨ (y.rep = x.rep ∧ y.n < x.n)))) := fun e => h2' (.inr ⟨hd.symm, e⟩)
  refine ⟨hd, ?_⟩
  clear h1' h2'
  have a1 : x.field = y.field := by omega
  have a2 : x.rep = y.rep := by omega
  have a3 : x.n = y.n := by omega
  exact ⟨a1, a2, a3⟩
theorem ltW_same {x y z : Wr} (h : x.doc = y.doc ∧ x.field = y.field ∧ x.rep = y.rep ∧ x.n = y.n) : ltW x z = ltW y z := by
  rw [Bool.eq_iff_iff, ltW_iff, ltW_iff, h.1, h.2.1, h.2.2.1, h.2.2.2]
theorem sw_W : SW ltW where
  irr := ltW_irr
  tr := fun x y z h1 h2 => ltW_trans h1 h2
  ng := fun x y z h1 h2 => by
    cases e : ltW y x with
    | false => rw [ltW_same (ltW_key h1 e)]; exact h2
    | true =>
      cases e2 : ltW x z with
      | false => rfl
      | true => rw [ltW_trans e e2] at h2; cases h2
theorem snocRec {α : Type} {motive : List α → Prop} (l : List α) (nil : motive []) (snoc : ∀ l x, motive l → motive (l ++ [x])) : motive l := by
  have h : ∀ m : List α, motive m.reverse := fun m => by
    induction m with
    | nil => exact nil
    | cons x m ih => rw [List.reverse_cons]; exact snoc _ x ih
  have := h l.reverse
  rwa [List.reverse_reverse] at this
theorem tw_all {α : Type} (p : α → Bool) : ∀ (l : List α), ∀ u ∈ l.takeWhile p, p u = true
  | [], u, h => by simp at h
  | x :: l, u, h => by
    rw [List.takeWhile_cons] at h
    cases e : p x
    · rw [e] at h; simp at h
    · rw [e] at h
      rcases List.mem_cons.1 h with rfl | h
      · exact e
      · exact tw_all p l u h
theorem cut_at {α : Type} : ∀ (A B l : List α), A ++ B = l → l.take A.length = A ∧ l.drop A.length = B := by rintro A B l rfl; simp
theorem insW_split (l : List Wr) (x : Wr) : ∃ A B, l = A ++ B ∧ insW l x = A ++ x :: B ∧ (∀ u ∈ A, ltW u x = true) ∧ (∀ v, B.head? = some v → ltW v x = false) := by
  obtain ⟨e1, e2⟩ := cut_at _ _ l (List.takeWhile_append_dropWhile (p := fun y => ltW y x) (l := l))
  refine ⟨l.takeWhile fun y => ltW y x, l.dropWhile fun y => ltW y x, List.takeWhile_append_dropWhile.symm, ?_, fun u hu => tw_all _ l u hu, fun v hv => ?_⟩
  · unfold insW insAt posW
    rw [e1, e2]
  · have h := List.head?_dropWhile_not (p := fun y => ltW y x) (l := l)
    rw [hv] at h
    simpa using h
theorem insW_perm (l : List Wr) (x : Wr) : (insW l x).Perm (l ++ [x]) := by
  obtain ⟨A, B, rfl, e, _⟩ := insW_split l x
  rw [e]
  exact (List.perm_middle.trans (List.perm_append_singleton x (A ++ B)).symm)
theorem insW_mem {l : List Wr} {x y : Wr} : y ∈ insW l x ↔ y ∈ l ∨ y = x := by
  rw [(insW_perm l x).mem_iff]; simp
theorem insW_srt {l : List Wr} (h : Srt ltW l) (x : Wr) : Srt ltW (insW l x) := by
  obtain ⟨A, B, rfl, e, hA, hB⟩ := insW_split l x
  rw [e]
  have h1 := List.pairwise_append.1 h
  have hBx : ∀ v ∈ B, ltW v x = false := by
    cases B with
    | nil => simp
    | cons v B =>
      have h0 := hB v rfl
      intro u hu
      rcases List.mem_cons.1 hu with rfl | hu
      · exact h0
      · exact sw_W.ng _ _ _ (List.rel_of_pairwise_cons h1.2.1 hu) h0
  refine List.pairwise_append.2 ⟨h1.1, List.Pairwise.cons hBx h1.2.1, fun a ha b hb => ?_⟩
  rcases List.mem_cons.1 hb with rfl | hb
  · exact sw_W.asym (hA a ha)
  · exact h1.2.2 a ha b hb
noncomputable def refStep (acc : List Wr) (x : Wr) : List Wr := if inW acc x then acc else insW acc x
theorem inW_congr {A B : List Wr} {x : Wr} (h : x ∈ A ↔ x ∈ B) : inW A x = inW B x := by rw [Bool.eq_iff_iff, inW_iff, inW_iff, h]
theorem fold_snoc {α β : Type} (f : β → α → β) (b : β) (l : List α) (x : α) : (l ++ [x]).foldl f b = f (l.foldl f b) x := by simp
theorem insF_perm (D : List Wr) : (D.foldl insW []).Perm D := by
  induction D using snocRec with
  | nil => exact List.Perm.refl _
  | snoc D x ih =>
    rw [fold_snoc]
    exact (insW_perm _ x).trans (List.Perm.append_right [x] ih)
theorem insF_srt (D : List Wr) : Srt ltW (D.foldl insW []) := by
  induction D using snocRec with
  | nil => exact List.Pairwise.nil
  | snoc D x ih => rw [fold_snoc]; exact insW_srt ih x
theorem refF_is (A : List Wr) : A.foldl refStep [] = (onceW A).foldl insW [] := by
  induction A using snocRec with
  | nil => rfl
  | snoc A x ih =>
    rw [fold_snoc, onceW_snoc, refStep, onceStep, ih]
    rw [inW_congr (insF_perm (onceW A)).mem_iff]
    cases inW (onceW A) x
    · simp [List.foldl_append]
    · simp
theorem onceW_mem (A : List Wr) (x : Wr) : x ∈ onceW A ↔ x ∈ A := by
  induction A using snocRec with
  | nil => simp [onceW]
  | snoc A y ih =>
    rw [onceW_snoc, onceStep]
    cases e : inW (onceW A) y
    · simp [ih]
    · have h1 := inW_iff.1 e
      have h2 := (Iff.refl (y ∈ onceW A)).1 h1
      constructor
      · intro h; exact List.mem_append.2 (.inl (ih.1 h))
      · intro h
        rcases List.mem_append.1 h with h | h
        · exact ih.2 h
        · rw [List.mem_singleton.1 h]; exact h1
theorem onceW_len (A : List Wr) : (onceW A).length ≤ A.length := by
  induction A using snocRec with
  | nil => simp [onceW]
  | snoc A y ih =>
    rw [onceW_snoc]
    have := onceStep_len (onceW A) y
    simp; omega
theorem leftW_len (L M : List Wr) (F : Nat → Int) : (leftW L M F).length ≤ L.length := List.length_filter_le _ _
/-- what two states are as one -/
noncomputable def joinL (L M : List Wr) (F G : Nat → Int) : List Wr := isrt ltW (onceW (leftW L M G ++ leftW M L F))
noncomputable def refStepK (M : List Wr) (G : Nat → Int) (acc : List Wr) (x : Wr) : List Wr := if (!hasB G x.rep x.n || inW M x) && !inW acc x then insW acc x else acc
noncomputable def refL (L M : List Wr) (F G : Nat → Int) : List Wr := M.foldl (refStepK L F) (L.foldl (refStepK M G) [])
theorem refStepK_is (M : List Wr) (G : Nat → Int) : refStepK M G = fun acc x => if (!leftGoes M G x) = true then refStep acc x else acc := by
  funext acc x
  unfold refStepK refStep leftGoes
  cases inW M x <;> cases hasB G x.rep x.n <;> cases inW acc x <;> rfl
theorem refL_is (L M : List Wr) (F G : Nat → Int) : refL L M F G = (onceW (leftW L M G ++ leftW M L F)).foldl insW [] := by
  rw [← refF_is, List.foldl_append]
  unfold refL leftW
  rw [refStepK_is, refStepK_is, List.foldl_filter, List.foldl_filter]
theorem join_same {L M : List Wr} {F G : Nat → Int} (hL : Ord L) (hM : Ord M) (hF : ∀ x ∈ L, hasB F x.rep x.n = true) (hG : ∀ x ∈ M, hasB G x.rep x.n = true) : joinL L M F G = refL L M F G := by
  rw [refL_is]
  unfold joinL
  obtain ⟨D, hD⟩ : ∃ D, onceW (leftW L M G ++ leftW M L F) = D := ⟨_, rfl⟩
  have mem : ∀ x ∈ D, (x ∈ L ∧ (x ∈ M ∨ hasB G x.rep x.n = false)) ∨ (x ∈ M ∧ (x ∈ L ∨ hasB F x.rep x.n = false)) := fun x hx => by
    rw [← hD, onceW_mem, List.mem_append] at hx
    have key : ∀ (L M : List Wr) (G : Nat → Int), x ∈ leftW L M G → x ∈ L ∧ (x ∈ M ∨ hasB G x.rep x.n = false) := fun L M G h => by
      unfold leftW leftGoes at h
      rw [List.mem_filter] at h
      refine ⟨h.1, ?_⟩
      cases e : inW M x
      · right
        cases e2 : hasB G x.rep x.n
        · rfl
        · have := h.2; rw [e, e2] at this; simp at this
      · exact .inl (inW_iff.1 e)
    rcases hx with hx | hx
    · exact .inl (key _ _ _ hx)
    · exact .inr (key _ _ _ hx)
  rw [hD]
  have one : ∀ {L : List Wr}, Ord L → ∀ x ∈ L, ∀ y ∈ L, ltW x y = false → ltW y x = false → x = y := fun {L} h x hx y hy h1 h2 => by
    obtain ⟨i, hi, rfl⟩ := List.getElem_of_mem hx
    obtain ⟨j, hj, rfl⟩ := List.getElem_of_mem hy
    rcases Nat.lt_trichotomy i j with hij | rfl | hij
    · have := List.pairwise_iff_getElem.1 h i j hi hj hij; rw [this] at h1; cases h1
    · rfl
    · have := List.pairwise_iff_getElem.1 h j i hj hi hij; rw [this] at h2; cases h2
  have across : ∀ {L M : List Wr} {G : Nat → Int} (_ : Ord M) (_ : ∀ x ∈ M, hasB G x.rep x.n = true) (x y : Wr), (x ∈ M ∨ hasB G x.rep x.n = false) → y ∈ M → ltW x y = false → ltW y x = false → x = y := fun {L M G} hM hG x y hx hy h1 h2 => by
    obtain ⟨_, _, k1, k2⟩ := ltW_key h1 h2
    rcases hx with hx | hx
    · exact one hM x hx y hy h1 h2
    · rw [k1, k2, hG y hy] at hx; cases hx
  refine List.Perm.eq_of_pairwise (le := fun a b => ltW b a = false) (fun x y hx hy h1 h2 => ?_) (isrt_srt sw_W D) (insF_srt D) ((isrt_perm D).trans (insF_perm D).symm)
  have hx := mem x ((isrt_perm D).mem_iff.1 hx)
  have hy := mem y ((insF_perm D).mem_iff.1 hy)
  rcases hx with ⟨hx, hx2⟩ | ⟨hx, hx2⟩
  · rcases hy with ⟨hy, hy2⟩ | ⟨hy, hy2⟩
    · exact one hL x hx y hy h2 h1
    · exact across (L := L) hM hG x y hx2 hy h2 h1
  · rcases hy with ⟨hy, hy2⟩ | ⟨hy, hy2⟩
    · exact across (L := M) hL hF x y hx2 hy h2 h1
    · exact one hM x hx y hy h2 h1
end Go.Proofs.YtdnkhcbglmfjbaaDoor
/- The document's: is a write one of some? -/
namespace Go.Proofs.YtdnkhcbglmfjbaaDoor
open Go Go.RowKit
set_option linter.unusedVariables false
set_option maxRecDepth 1000000

theorem eqlWr (x y : Wr) (w : World) : (binOp .eql 34 (.agg x.cells.toArray) (.agg y.cells.toArray)).run Tryd.prog w = .ok (.bool (eqW x y)) w := by
  rw [run_eql_struct, runEqWA x y w]; rfl
set_option maxHeartbeats 4000000 in
theorem refIn_is (p : Option Addr) (c : Nat) (l : List Wr) (y : Wr) (w : World) (h : WrsAt w p l) (hn : l.length ≤ 1000000) :
    Calls Tryd.prog 23 #[.slice p l.length c, .agg y.cells.toArray] w (RetBool w (inW l y)) := by
  have H := Lib.hid h; clear h
  obtain ⟨R, hR⟩ : ∃ R, inW l y = R := ⟨_, rfl⟩
  rw [hR]
  have HR := Lib.hid hR
  clear hR
  go_enter Tryd.func23, Tryd.ntmps23
  go_wp2_with (refine wpList_gbox rfl _ rfl y.cells.toArray rfl ?_)
  intro g3 w1 l3 h3 hb1
  have B1 := Lib.hid hb1
  have Y1 := Lib.hid (range_of_block h3)
  clear hb1 h3
  go_wp2
  go_loopw [9] (fun i wr => ∃ k : Nat, k ≤ l.length ∧ i = .int .i64 k ∧ (∀ i (h : i < l.length), i < k → l[i] ≠ y) ∧ Below w1.heap.size w1 wr) (fun i _ => l.length - (intOf i).toNat)
  case atStart => exact ⟨0, Nat.zero_le _, rfl, fun i _ h => by omega, Below.refl _ _⟩
  case round =>
    obtain ⟨k, hk, rfl, hall, hb⟩ := hrel
    have BB := Lib.hid hb; have HA := Lib.hid hall
    clear hall hb
    by_cases hkl : k < l.length
    · have hkl' : (k : Int) < l.length := by omega
      have hr := thenBelow B1.out BB.out
      obtain ⟨b1, o1, rfl, _, q1⟩ := (H.out.below hr).at hkl
      obtain ⟨x, hx⟩ : ∃ x, l[k] = x := ⟨_, rfl⟩
      have HX := Lib.hid hx
      rw [hx] at q1
      obtain ⟨d0, d1, d2, d3, d4, d5⟩ := wr_cells q1
      have y1' := range_below Y1.out (thenBelow BB.out (below_alloc wr (.cells x.cells.toArray 34)))
      obtain ⟨e0, e1, e2, e3, e4, e5⟩ := wr_cells y1'
      simp only [Nat.zero_add] at e0 e1 e2 e3 e4 e5
      have B6 := Lib.hid (thenBelow BB.out (below_alloc wr (.cells x.cells.toArray 34)))
      clear hr q1 y1' hx
      obtain ⟨q, hq⟩ : ∃ q, eqW x y = q := ⟨_, rfl⟩
      have EQ := Lib.hid hq
      have qr := eqlWr x y
      rw [hq] at qr
      clear hq
      have NA : q = false → Hid (∀ i (h : i < l.length), i < k + 1 → l[i] ≠ y) := fun hqf => Lib.hid fun i h hi => by
        rcases Nat.lt_or_ge i k with h3 | h3
        · exact HA.out i h h3
        · obtain rfl : i = k := by omega
          intro e
          rw [HX.out] at e
          have h4 := EQ.out
          rw [eqW_iff.2 e, hqf] at h4
          cases h4
      have NY : q = true → R = true := fun hqt => by
        rw [← HR.out]
        refine inW_iff.2 ?_
        rw [← eqW_iff.1 (EQ.out.trans hqt), ← HX.out]
        exact List.getElem_mem hkl
      obtain ⟨xr, xn, xt, xd, xf, xx⟩ := x
      obtain ⟨yr, yn, yt, yd, yf, yx⟩ := y
      have qr2 : ∀ V : World, (binOp .eql 34 (.agg #[.int .i64 xr, .int .i64 xn, .int .i64 xt, .string xd, .int .i64 xf, .string xx]) (.agg #[.int .i64 yr, .int .i64 yn, .int .i64 yt, .string yd, .int .i64 yf, .string yx])).run Tryd.prog V = .ok (.bool q) V := qr
      have B6 : Hid (Below w1.heap.size w1 (wr.alloc (.cells #[.int .i64 xr, .int .i64 xn, .int .i64 xt, .string xd, .int .i64 xf, .string xx] 34))) := B6
      simp only at d0 d1 d2 d3 d4 d5 e0 e1 e2 e3 e4 e5
      have e0 : (wr.alloc (.cells #[.int .i64 xr, .int .i64 xn, .int .i64 xt, .string xd, .int .i64 xf, .string xx] 34)).cell? ⟨g3, 0, none⟩ = some (.int .i64 yr) := e0
      have e1 : (wr.alloc (.cells #[.int .i64 xr, .int .i64 xn, .int .i64 xt, .string xd, .int .i64 xf, .string xx] 34)).cell? ⟨g3, 1, none⟩ = some (.int .i64 yn) := e1
      have e2 : (wr.alloc (.cells #[.int .i64 xr, .int .i64 xn, .int .i64 xt, .string xd, .int .i64 xf, .string xx] 34)).cell? ⟨g3, 2, none⟩ = some (.int .i64 yt) := e2
      have e3 : (wr.alloc (.cells #[.int .i64 xr, .int .i64 xn, .int .i64 xt, .string xd, .int .i64 xf, .string xx] 34)).cell? ⟨g3, 3, none⟩ = some (.string yd) := e3
      have e4 : (wr.alloc (.cells #[.int .i64 xr, .int .i64 xn, .int .i64 xt, .string xd, .int .i64 xf, .string xx] 34)).cell? ⟨g3, 4, none⟩ = some (.int .i64 yf) := e4
      have e5 : (wr.alloc (.cells #[.int .i64 xr, .int .i64 xn, .int .i64 xt, .string xd, .int .i64 xf, .string xx] 34)).cell? ⟨g3, 5, none⟩ = some (.string yx) := e5
      clear qr
      cases q with
      | true =>
        obtain rfl := NY rfl
        clear NA NY
        go_wp2
        go_ret
        exact ⟨rfl, thenBelow B1.out B6.out⟩
      | false =>
        have NA := NA rfl
        clear NY
        go_wp2
        go_roundw
        case rel => exact ⟨k + 1, by omega, by go_num, NA.out, B6.out⟩
        case measure => simp [intOf]; omega
    · obtain rfl : k = l.length := by omega
      have hkl' : ¬ ((l.length : Nat) : Int) < l.length := by omega
      have hf : R = false := by
        rw [← HR.out, Bool.eq_false_iff]
        intro h
        obtain ⟨i, hi, e⟩ := List.getElem_of_mem (inW_iff.1 h)
        exact absurd e (HA.out i hi hi)
      subst hf
      go_wp2
      go_ret
      exact ⟨rfl, thenBelow B1.out BB.out⟩
end Go.Proofs.YtdnkhcbglmfjbaaDoor
