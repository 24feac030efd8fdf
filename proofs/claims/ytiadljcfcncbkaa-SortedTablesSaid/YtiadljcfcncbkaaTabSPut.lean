/- sorted's tables of ints by texts: Put, Cut. -/
import Derived.Test.YtiadljcfcncbkaaTabS
namespace Go.Proofs.Ytiadljcfcncbkaa
open Go Go.RowKit Go.Sort Go.Lib
set_option linter.unusedVariables false

/-- whatever is neither a row of texts, nor of ints, nor a table, stays -/
def TabStay (w w' : World) : Prop := ∀ (k : Nat) cs t m, w.heap[k]? = some (Obj.cells cs t m) → t ≠ 9 → t ≠ 3 → t ≠ 26 → w'.heap[k]? = some (Obj.cells cs t m)
theorem TabStay.trans {w w1 w2 : World} (h : TabStay w w1) (k : TabStay w1 w2) : TabStay w w2 := fun i cs t m hi h1 h2 h3 => k i cs t m (h i cs t m hi h1 h2 h3) h1 h2 h3
theorem tabStay_below {w w' : World} (hb : Below w.heap.size w w') : TabStay w w' := fun k cs t m hk _ _ _ => (hb.block k (Array.getElem?_eq_some_iff.1 hk).1).trans hk
theorem tabStay_own {w w' : World} {B n : Nat} {e : TypeId} {v : Value} {xs : List Value} (he : e = 9 ∨ e = 3) (h : w.ownsRow B e 1 v n xs) (hg : w.grownBy w' v.ownBlock) : TabStay w w' := fun k cs t m hk h1 h2 _ => by
  refine (hg.block k (Array.getElem?_eq_some_iff.1 hk).1 ?_).trans hk
  rcases h.2 with ⟨rfl, _⟩ | ⟨g, cap, cur, rfl, _, hgc, _⟩
  · simp [Value.ownBlock]
  · intro e'
    simp [Value.ownBlock] at e'
    subst e'
    rw [hk] at hgc
    cases hgc
    rcases he with rfl | rfl
    · exact h1 rfl
    · exact h2 rfl
theorem tabStay_set {w : World} {a : Nat} {cs : Array Value} {m : Nat × Nat} (ha : w.heap[a]? = some (Obj.cells cs 26 m)) (j : Nat) (v : Value) : TabStay w (w.setCell ⟨a, j, none⟩ v) := fun k cs t m hk _ _ h3 => by
  refine (Below.heap_setCell _ _ _ k ?_).trans hk
  intro e
  have e' : k = a := e
  rw [e', ha] at hk
  cases hk
  exact h3 rfl
theorem strs_enc (l : List ByteArray) : strs l = (l.map (fun x => x.data.toList)).map encStr := by
  simp [strs, encStr]
theorem deleteS_is (B j : Nat) (l : List ByteArray) (v : Value) (w : World) (hown : w.ownsRow B 9 1 v l.length (strs l)) (hj : j < l.length) (hn : l.length ≤ 1000000) :
    Calls Try.prog 47 #[v, .int .i64 (j : Int), .int .i64 ((j : Int) + 1)] w fun e w' => ∃ v', e = .returned v' ∧ w'.ownsRow B 9 1 v' (l.eraseIdx j).length (strs (l.eraseIdx j)) ∧ v'.ownBlock = v.ownBlock ∧ w.grownBy w' v.ownBlock := by
  have hv : v ≠ .slice none 0 0 := by
    rintro rfl
    rcases hown.2 with ⟨_, h0⟩ | ⟨g, cap, cur, h0, _⟩
    · omega
    · cases h0
  obtain ⟨Z, hZ⟩ : ∃ Z : List (List UInt8), Z = l.map (fun x => x.data.toList) := ⟨_, rfl⟩
  have hZl : Z.length = l.length := by rw [hZ]; simp
  have hown' : w.ownsRow B 9 1 v l.length (Z.map encStr) := by rw [hZ, ← strs_enc]; exact hown
  obtain ⟨g, cap, rfl, hB, hlt, hc, hm, _, hH⟩ := holds_of_ownsRow (enc := encStr) hown' hv
  have h := Try.slices_Delete_string g 0 cap j (j + 1) Z w hH (by omega) (by unfold maxLen at hm; omega) (by omega) (by omega)
  rw [show ((j + 1 : Nat) : Int) = (j : Int) + 1 by omega, show j + 1 - j = 1 by omega, hZl] at h
  refine h.mono ?_
  rintro e w' ⟨rfl, q, rfl⟩
  have hlen : (l.eraseIdx j).length = l.length - 1 := by rw [List.length_eraseIdx]; simp [hj]
  refine ⟨_, rfl, ?_, rfl, ?_⟩
  · have := ownsRow_putRow (k := l.length - 1) (q := q) hown' (ys := Z.take j ++ Z.drop (j + 1) ++ [[]]) (by simp; omega) (by omega)
    have e1 : ((Z.take j ++ Z.drop (j + 1) ++ [[]]).take (l.length - 1)) = Z.eraseIdx j := by
      rw [List.eraseIdx_eq_take_drop_succ]
      have e : (Z.take j ++ Z.drop (j + 1)).length = l.length - 1 := by simp; omega
      rw [← e, List.take_left']
      rfl
    rw [e1] at this
    rw [hlen, strs_enc]
    have e2 : (l.eraseIdx j).map (fun x => x.data.toList) = Z.eraseIdx j := by rw [hZ, List.eraseIdx_eq_take_drop_succ, List.eraseIdx_eq_take_drop_succ, List.map_append, List.map_take, List.map_drop]
    rw [e2]
    exact this
  · have := grownBy_sorted (w := w) (g := g) (n := q) (os := #[]) (Z.take j ++ Z.drop (j + 1) ++ [[]]).toArray
    rw [grow_empty] at this
    exact this
set_option maxHeartbeats 1000000
set_option maxRecDepth 100000
theorem tabPutS_there (B a : Nat) (l A Bs : Tb.Rows ByteArray) (x : ByteArray) (u0 y : Int) (w : World) (h : TabS B a l w) (hr : Tb.Rise ltB l) (s : Tb.Sp ltB l x A ((x, u0) :: Bs)) (hn : l.length ≤ 1000) (haB : a < B) (hB : B ≤ w.heap.size) :
    Calls Try.prog 11 #[.pointer (some ⟨a, 0, none⟩), .string x, .int .i64 y] w fun e w' => e = .returned (.bool false) ∧ TabS B a (A ++ (x, y) :: Bs) w' ∧ Below a w w' ∧ TabStay w w' := by
  have hx : x ∈ kS l := s.mem_iff
  have SK := Lib.hid (tabSeekS_is B a l A _ x w h hr s true ⟨fun _ => hx, fun _ => rfl⟩ (by omega))
  have HT := Lib.hid h
  have HK := Lib.hid (show kS (A ++ (x, y) :: Bs) = kS l by rw [s.eq]; simp [kS])
  have hp : A.length < (vI l).length := by rw [vI_len, s.eq]; simp
  have HV := Lib.hid (show vI (A ++ (x, y) :: Bs) = (vI l).set A.length y by rw [s.eq]; simp [vI])
  clear h hr hx s
  generalize A ++ (x, y) :: Bs = l2 at HK HV ⊢
  generalize A.length = p at SK hp HV
  go_enter Try.func11, Try.ntmps11
  go_wp2_with fail
  refine SK.out.mono ?_
  rintro e w1 ⟨rfl, hb⟩
  obtain ⟨vk, vv, h1, h2, h3, h4⟩ := HT.out.below hb
  obtain ⟨g, c, rfl, hBg, _⟩ := ownV_some h3 (by omega)
  have hpV : (p : Int) < (vI l).length := by omega
  have hga : g ≠ a := by omega
  have O3 := own_setInt h3 p y hp
  have hfr := World.ownsRow.frozenAt h3 p
  have hgc : ∃ u, w1.cell? ⟨g, p, none⟩ = some u := by
    obtain ⟨_, _, _, _, _, f, ⟨cs, e1, e2, e3⟩, _⟩ := own_rowIs h3
    exact ⟨_, (cell_of_row w1 g p _ _ _ e1).trans (e3 p (by omega))⟩
  obtain ⟨u, hu⟩ := hgc
  have c1 := (cell_of_row w1 a 1 _ _ _ h1).trans (show _ = some (Value.slice (some ⟨g, 0, none⟩) (vI l).length c) from rfl)
  have O2 := World.ownsRow.kept h2 (set_grown w1 g p (.int .i64 y)) (h4.imp id fun h e => h (by rw [e]; rfl))
  have H1 := (Below.heap_setCell w1 ⟨g, p, none⟩ (.int .i64 y) a hga.symm).trans h1
  have hb2 := (hb.mono (show a ≤ w.heap.size by omega)).setCell (p := ⟨g, p, none⟩) (show a ≤ g by omega) (.int .i64 y)
  have hms : TabStay w (w1.setCell ⟨g, p, none⟩ (.int .i64 y)) := (tabStay_below hb).trans (tabStay_own (.inr rfl) h3 (set_grown w1 g p (.int .i64 y)))
  have T2 := Lib.hid (show TabS B a l2 (w1.setCell ⟨g, p, none⟩ (.int .i64 y)) from ⟨vk, _, H1, by rw [HK.out]; exact O2, by rw [HV.out, List.length_set]; exact O3, h4⟩)
  have B2 := Lib.hid hb2; have M2 := Lib.hid hms
  clear h1 h2 h3 h4 O3 O2 H1 hb hb2 hms SK HT hn HK HV
  generalize (vI l).length = N at hp hpV c1
  go_wp2
  go_ret
  exact ⟨rfl, T2.out, B2.out, M2.out⟩
theorem tabPutS_new (B a : Nat) (l A Bs : Tb.Rows ByteArray) (x : ByteArray) (y : Int) (w : World) (h : TabS B a l w) (hr : Tb.Rise ltB l) (s : Tb.Sp ltB l x A Bs) (hx : x ∉ kS l) (hn : l.length ≤ 1000) (haB : a < B) (hB : B ≤ w.heap.size) :
    Calls Try.prog 11 #[.pointer (some ⟨a, 0, none⟩), .string x, .int .i64 y] w fun e w' => e = .returned (.bool true) ∧ TabS B a (A ++ (x, y) :: Bs) w' ∧ Below a w w' ∧ TabStay w w' := by
  have SK := Lib.hid (tabSeekS_is B a l A _ x w h hr s false ⟨(fun h => nomatch h), fun h => absurd h hx⟩ (by omega))
  have HT := Lib.hid h
  have HK := Lib.hid (show (kS l).take A.length ++ x :: (kS l).drop A.length = kS (A ++ (x, y) :: Bs) by rw [s.eq]; simp [kS])
  have HV := Lib.hid (show insI (vI l) A.length y = vI (A ++ (x, y) :: Bs) by rw [s.eq]; simp [vI, insI])
  have hpl : A.length ≤ l.length := by rw [s.eq]; simp
  have hkl := kS_len l; have hvl := vI_len l
  clear h hr hx s
  generalize A ++ (x, y) :: Bs = l2 at HK HV ⊢
  generalize A.length = p at SK hpl HK HV
  go_enter Try.func11, Try.ntmps11
  go_wp2_with fail
  refine SK.out.mono ?_
  rintro e w1 ⟨rfl, hb⟩
  obtain ⟨vk, vv, h1, h2, h3, h4⟩ := HT.out.below hb
  have hB1 : B ≤ w1.heap.size := Nat.le_trans hB hb.size
  have ha1 := (Array.getElem?_eq_some_iff.1 h1).1
  have c0 := (cell_of_row w1 a 0 _ _ _ h1).trans (show _ = some vk from rfl)
  have H1 := Lib.hid h1; have H2 := Lib.hid h2; have H3 := Lib.hid h3; have H4 := Lib.hid h4; have BB := Lib.hid hb
  clear h1 h2 h3 h4 hb SK HT
  go_wp2_with fail
  have hvA := heap_alloc_new w1 (.cells #[.string x] 9)
  have zA : (w1.alloc (.cells #[.string x] 9)).heap.size = w1.heap.size + 1 := by simp
  have hbA : Below w1.heap.size w1 (w1.alloc (.cells #[.string x] 9)) := (Below.refl _ w1).alloc (Nat.le_refl _) _
  have O2A := H2.out.alloc (.cells #[.string x] 9)
  have O3A := H3.out.alloc (.cells #[.string x] 9)
  have hneA : vk.ownBlock ≠ some w1.heap.size := fun e => by have := (H2.out.lt _ e).2; omega
  refine (insertS_is B p (kS l) vk (w1.alloc (.cells #[.string x] 9)) w1.heap.size x O2A (by omega) (by omega) (by omega) hvA hneA).mono ?_
  rintro e w2 ⟨vk2, rfl, ho2, hg2, ha2⟩
  rw [strs_insV, strs_length, HK.out] at ho2
  have hne1 : some a ≠ vk.ownBlock := fun e => by have := (H2.out.lt a e.symm).1; omega
  have h1_2 := (hg2.block a (by omega) hne1).trans ((hbA.block a ha1).trans H1.out)
  have O3_2 := World.ownsRow.kept O3A hg2 (ne_sym H4.out)
  have hn2 := ne_at2 O3A (ne_sym H4.out) ha2 (Nat.le_refl _)
  have hb2 := (((BB.out.mono (show a ≤ w.heap.size by omega)).trans (hbA.mono (show a ≤ w1.heap.size by omega))).grown hg2 (by omega) (fun k hk => by have := (O2A.lt k hk).1; omega))
  have hm2 := ((tabStay_below BB.out).trans (tabStay_below hbA)).trans (tabStay_own (.inl rfl) O2A hg2)
  have z2 := hg2.size
  obtain ⟨q2, c2, rfl⟩ := ownV_slice ho2
  have HK2 := Lib.hid (kS_len l2)
  obtain ⟨N2, hN2⟩ : ∃ N2, (kS l2).length = N2 := ⟨_, rfl⟩
  have HN2 := Lib.hid hN2
  rw [hN2] at ho2 ha2 hn2 ⊢
  clear hN2
  have c0' := (cell_of_row w2 a 0 _ _ _ h1_2).trans (show _ = some vk from rfl)
  have f0' := frozen_of_row w2 a 0 _ _ h1_2
  have h1_3 := set_cellsH h1_2 0 (.slice q2 N2 c2)
  simp only [List.setIfInBounds_toArray, List.set_cons_succ, List.set_cons_zero] at h1_3
  have hna2 : (Value.slice q2 N2 c2).ownBlock = none ∨ (Value.slice q2 N2 c2).ownBlock ≠ some a := .inr (fun e => by have := (ho2.lt a e).1; omega)
  have hna3 : vv.ownBlock = none ∨ vv.ownBlock ≠ some a := .inr (fun e => by have := (O3_2.lt a e).1; omega)
  have O2_3 := World.ownsRow.kept ho2 (set_grown w2 a 0 (.slice q2 N2 c2)) hna2
  have O3_3 := World.ownsRow.kept O3_2 (set_grown w2 a 0 (.slice q2 N2 c2)) hna3
  have hb3 := hb2.setCell (p := ⟨a, 0, none⟩) (Nat.le_refl a) (.slice q2 N2 c2)
  have hm3 := hm2.trans (tabStay_set h1_2 0 (.slice q2 N2 c2))
  have z3 : (w2.setCell ⟨a, 0, none⟩ (.slice q2 N2 c2)).heap.size = w2.heap.size := by simp
  have P1 := Lib.hid h1_3; have P2 := Lib.hid O2_3; have P3 := Lib.hid O3_3; have P4 := Lib.hid hn2; have P5 := Lib.hid hb3; have P6 := Lib.hid hm3
  have hB3 : B ≤ (w2.setCell ⟨a, 0, none⟩ (.slice q2 N2 c2)).heap.size := by rw [z3]; omega
  have c1_3 := (cell_of_row _ a 1 _ _ _ h1_3).trans (show _ = some vv from rfl)
  clear hvA zA hbA O2A O3A ho2 hg2 ha2 h1_2 O3_2 hn2 hb2 hm2 z2 h1_3 O2_3 O3_3 hb3 hm3 c0 hna2 hna3 hne1 H1 H2 H3 H4 BB hneA
  have HVL := Lib.hid hvl; have HKL := Lib.hid hkl
  clear hvl hkl
  go_wp2_with fail
  clear c1_3
  generalize w2.setCell ⟨a, 0, none⟩ (.slice q2 N2 c2) = w3 at P1 P2 P3 P5 P6 hB3 z3 ⊢
  rw [← z3]
  clear z3
  have hvl := HVL.out
  have ha3 := (Array.getElem?_eq_some_iff.1 P1.out).1
  have hvB := heap_alloc_new w3 (.cells #[.int .i64 y] 3)
  have zB : (w3.alloc (.cells #[.int .i64 y] 3)).heap.size = w3.heap.size + 1 := by simp
  have hbB : Below w3.heap.size w3 (w3.alloc (.cells #[.int .i64 y] 3)) := (Below.refl _ w3).alloc (Nat.le_refl _) _
  have O2B := P2.out.alloc (.cells #[.int .i64 y] 3)
  have O3B := P3.out.alloc (.cells #[.int .i64 y] 3)
  refine (insertI_is B p (vI l) vv (w3.alloc (.cells #[.int .i64 y] 3)) w3.heap.size y O3B (by omega) (by omega) (by omega) hvB (own_allocI P3.out y)).mono ?_
  rintro e w4 ⟨vv2, rfl, ho4, hg4, ha4⟩
  rw [ints_insV, ints_length, HV.out] at ho4
  have hne4 : some a ≠ vv.ownBlock := fun e => by have := (P3.out.lt a e.symm).1; omega
  have h1_4 := (hg4.block a (by omega) hne4).trans ((hbB.block a ha3).trans P1.out)
  have O2_4 := World.ownsRow.kept O2B hg4 (ne_sym P4.out)
  have hn4 := ne_at2 O2B (ne_sym P4.out) ha4 (Nat.le_refl _)
  have hb4 := ((P5.out.trans (hbB.mono (show a ≤ w3.heap.size by omega))).grown hg4 (by omega) (fun k hk => by have := (O3B.lt k hk).1; omega))
  have hm4 := (P6.out.trans (tabStay_below hbB)).trans (tabStay_own (.inr rfl) O3B hg4)
  obtain ⟨q4, c4, rfl⟩ := ownV_slice ho4
  obtain ⟨N4, hN4⟩ : ∃ N4, (vI l2).length = N4 := ⟨_, rfl⟩
  have HN4 := Lib.hid hN4
  rw [hN4] at ho4 ha4 hn4 ⊢
  clear hN4
  have c1' := (cell_of_row w4 a 1 _ _ _ h1_4).trans (show _ = some vv from rfl)
  have f1' := frozen_of_row w4 a 1 _ _ h1_4
  have h1_5 := set_cellsH h1_4 1 (.slice q4 N4 c4)
  simp only [List.setIfInBounds_toArray, List.set_cons_succ, List.set_cons_zero] at h1_5
  have hna4 : (Value.slice q4 N4 c4).ownBlock = none ∨ (Value.slice q4 N4 c4).ownBlock ≠ some a := .inr (fun e => by have := (ho4.lt a e).1; omega)
  have hna5 : (Value.slice q2 N2 c2).ownBlock = none ∨ (Value.slice q2 N2 c2).ownBlock ≠ some a := .inr (fun e => by have := (O2_4.lt a e).1; omega)
  have O3_5 := World.ownsRow.kept ho4 (set_grown w4 a 1 (.slice q4 N4 c4)) hna4
  have O2_5 := World.ownsRow.kept O2_4 (set_grown w4 a 1 (.slice q4 N4 c4)) hna5
  have hb5 := hb4.setCell (p := ⟨a, 1, none⟩) (Nat.le_refl a) (.slice q4 N4 c4)
  have hm5 := hm4.trans (tabStay_set h1_4 1 (.slice q4 N4 c4))
  have T5 := Lib.hid (show TabS B a l2 (w4.setCell ⟨a, 1, none⟩ (.slice q4 N4 c4)) from ⟨_, _, h1_5, by rw [HN2.out]; exact O2_5, by rw [HN4.out]; exact O3_5, hn4⟩)
  have B5 := Lib.hid hb5; have M5 := Lib.hid hm5
  clear hvB zB hbB O2B O3B ho4 hg4 ha4 h1_4 O2_4 hn4 hb4 hm4 h1_5 O3_5 O2_5 hb5 hm5 hna4 hna5 hne4 P1 P2 P3 P4 P5 P6 HN2 HN4 HK2 hvl HVL HKL HK HV
  go_wp2
  go_ret
  exact ⟨rfl, T5.out, B5.out, M5.out⟩
/-- Cut of what is not there -/
theorem tabCutS_no (B a : Nat) (l A Bs : Tb.Rows ByteArray) (x : ByteArray) (w : World) (h : TabS B a l w) (hr : Tb.Rise ltB l) (s : Tb.Sp ltB l x A Bs) (hx : x ∉ kS l) (hn : l.length ≤ 1000) :
    Calls Try.prog 14 #[.pointer (some ⟨a, 0, none⟩), .string x] w fun e w' => e = .returned (.bool false) ∧ Below w.heap.size w w' := by
  have SK := Lib.hid (tabSeekS_is B a l A _ x w h hr s false ⟨(fun h => nomatch h), fun h => absurd h hx⟩ (by omega))
  clear h hr hx s
  generalize A.length = p at SK
  go_enter Try.func14, Try.ntmps14
  go_wp2_with fail
  refine SK.out.mono ?_
  rintro e w1 ⟨rfl, hb⟩
  have B1 := Lib.hid hb
  clear hb SK
  go_wp2_with fail
  go_ret
  exact ⟨rfl, B1.out⟩
theorem erase_mid {α β : Type} (A B : List α) (x : α) (f : α → β) : ((A ++ x :: B).map f).eraseIdx A.length = (A ++ B).map f := by
  rw [List.map_append, List.map_cons, List.eraseIdx_append_of_length_le (by simp)]; simp
theorem tabCutS_is (B a : Nat) (l A Bs : Tb.Rows ByteArray) (x : ByteArray) (u0 : Int) (w : World) (h : TabS B a l w) (hr : Tb.Rise ltB l) (s : Tb.Sp ltB l x A ((x, u0) :: Bs)) (hn : l.length ≤ 1000) (haB : a < B) (hB : B ≤ w.heap.size) :
    Calls Try.prog 14 #[.pointer (some ⟨a, 0, none⟩), .string x] w fun e w' => e = .returned (.bool true) ∧ TabS B a (A ++ Bs) w' ∧ Below a w w' ∧ TabStay w w' := by
  have hx : x ∈ kS l := s.mem_iff
  have SK := Lib.hid (tabSeekS_is B a l A _ x w h hr s true ⟨fun _ => hx, fun _ => rfl⟩ (by omega))
  have HT := Lib.hid h
  have HK := Lib.hid (show (kS l).eraseIdx A.length = kS (A ++ Bs) by rw [s.eq]; exact erase_mid A Bs _ _)
  have HV := Lib.hid (show (vI l).eraseIdx A.length = vI (A ++ Bs) by rw [s.eq]; exact erase_mid A Bs _ _)
  have hpl : A.length < l.length := by rw [s.eq]; simp
  have hkl := kS_len l; have hvl := vI_len l
  clear h hr hx s
  generalize A ++ Bs = l2 at HK HV ⊢
  generalize A.length = p at SK hpl HK HV
  go_enter Try.func14, Try.ntmps14
  go_wp2_with fail
  refine SK.out.mono ?_
  rintro e w1 ⟨rfl, hb⟩
  obtain ⟨vk, vv, h1, h2, h3, h4⟩ := HT.out.below hb
  have hB1 : B ≤ w1.heap.size := Nat.le_trans hB hb.size
  have ha1 := (Array.getElem?_eq_some_iff.1 h1).1
  have c0 := (cell_of_row w1 a 0 _ _ _ h1).trans (show _ = some vk from rfl)
  have H1 := Lib.hid h1; have H2 := Lib.hid h2; have H3 := Lib.hid h3; have H4 := Lib.hid h4; have BB := Lib.hid hb
  clear h1 h2 h3 h4 hb SK HT
  go_wp2_with fail
  refine (deleteS_is B p (kS l) vk w1 H2.out (by omega) (by omega)).mono ?_
  rintro e w2 ⟨vk2, rfl, ho2, ha2, hg2⟩
  rw [HK.out] at ho2
  have hne1 : some a ≠ vk.ownBlock := fun e => by have := (H2.out.lt a e.symm).1; omega
  have h1_2 := (hg2.block a (by omega) hne1).trans H1.out
  have O3_2 := World.ownsRow.kept H3.out hg2 (ne_sym H4.out)
  have hn2 := ne_at2 H3.out (ne_sym H4.out) (v' := vk2) (.inl ha2) (Nat.le_refl _)
  have hb2 := ((BB.out.mono (show a ≤ w.heap.size by omega)).grown hg2 (by omega) (fun k hk => by have := (H2.out.lt k hk).1; omega))
  have hm2 := (tabStay_below BB.out).trans (tabStay_own (.inl rfl) H2.out hg2)
  have z2 := hg2.size
  obtain ⟨q2, c2, rfl⟩ := ownV_slice ho2
  obtain ⟨N2, hN2⟩ : ∃ N2, (kS l2).length = N2 := ⟨_, rfl⟩
  have HN2 := Lib.hid hN2
  rw [hN2] at ho2 ha2 hn2 ⊢
  clear hN2
  have c0' := (cell_of_row w2 a 0 _ _ _ h1_2).trans (show _ = some vk from rfl)
  have f0' := frozen_of_row w2 a 0 _ _ h1_2
  have h1_3 := set_cellsH h1_2 0 (.slice q2 N2 c2)
  simp only [List.setIfInBounds_toArray, List.set_cons_succ, List.set_cons_zero] at h1_3
  have hna2 : (Value.slice q2 N2 c2).ownBlock = none ∨ (Value.slice q2 N2 c2).ownBlock ≠ some a := .inr (fun e => by have := (ho2.lt a e).1; omega)
  have hna3 : vv.ownBlock = none ∨ vv.ownBlock ≠ some a := .inr (fun e => by have := (O3_2.lt a e).1; omega)
  have O2_3 := World.ownsRow.kept ho2 (set_grown w2 a 0 (.slice q2 N2 c2)) hna2
  have O3_3 := World.ownsRow.kept O3_2 (set_grown w2 a 0 (.slice q2 N2 c2)) hna3
  have hb3 := hb2.setCell (p := ⟨a, 0, none⟩) (Nat.le_refl a) (.slice q2 N2 c2)
  have hm3 := hm2.trans (tabStay_set h1_2 0 (.slice q2 N2 c2))
  have z3 : (w2.setCell ⟨a, 0, none⟩ (.slice q2 N2 c2)).heap.size = w2.heap.size := by simp
  have P1 := Lib.hid h1_3; have P2 := Lib.hid O2_3; have P3 := Lib.hid O3_3; have P4 := Lib.hid hn2; have P5 := Lib.hid hb3; have P6 := Lib.hid hm3
  have hB3 : B ≤ (w2.setCell ⟨a, 0, none⟩ (.slice q2 N2 c2)).heap.size := by rw [z3]; omega
  have c1_3 := (cell_of_row _ a 1 _ _ _ h1_3).trans (show _ = some vv from rfl)
  clear ho2 hg2 ha2 h1_2 O3_2 hn2 hb2 hm2 z2 h1_3 O2_3 O3_3 hb3 hm3 c0 hna2 hna3 hne1 H1 H2 H3 H4 BB
  have HVL := Lib.hid hvl; have HKL := Lib.hid hkl
  clear hvl hkl
  go_wp2_with fail
  clear c1_3
  generalize w2.setCell ⟨a, 0, none⟩ (.slice q2 N2 c2) = w3 at P1 P2 P3 P5 P6 hB3 z3 ⊢
  clear z3
  have hvl := HVL.out
  have ha3 := (Array.getElem?_eq_some_iff.1 P1.out).1
  refine (deleteI_is B p (vI l) vv w3 P3.out (by omega) (by omega)).mono ?_
  rintro e w4 ⟨vv2, rfl, ho4, ha4, hg4⟩
  rw [HV.out] at ho4
  have hne4 : some a ≠ vv.ownBlock := fun e => by have := (P3.out.lt a e.symm).1; omega
  have h1_4 := (hg4.block a (by omega) hne4).trans P1.out
  have O2_4 := World.ownsRow.kept P2.out hg4 (ne_sym P4.out)
  have hn4 := ne_at2 P2.out (ne_sym P4.out) (v' := vv2) (.inl ha4) (Nat.le_refl _)
  have hb4 := (P5.out.grown hg4 (by omega) (fun k hk => by have := (P3.out.lt k hk).1; omega))
  have hm4 := P6.out.trans (tabStay_own (.inr rfl) P3.out hg4)
  obtain ⟨q4, c4, rfl⟩ := ownV_slice ho4
  obtain ⟨N4, hN4⟩ : ∃ N4, (vI l2).length = N4 := ⟨_, rfl⟩
  have HN4 := Lib.hid hN4
  rw [hN4] at ho4 ha4 hn4 ⊢
  clear hN4
  have c1' := (cell_of_row w4 a 1 _ _ _ h1_4).trans (show _ = some vv from rfl)
  have f1' := frozen_of_row w4 a 1 _ _ h1_4
  have h1_5 := set_cellsH h1_4 1 (.slice q4 N4 c4)
  simp only [List.setIfInBounds_toArray, List.set_cons_succ, List.set_cons_zero] at h1_5
  have hna4 : (Value.slice q4 N4 c4).ownBlock = none ∨ (Value.slice q4 N4 c4).ownBlock ≠ some a := .inr (fun e => by have := (ho4.lt a e).1; omega)
  have hna5 : (Value.slice q2 N2 c2).ownBlock = none ∨ (Value.slice q2 N2 c2).ownBlock ≠ some a := .inr (fun e => by have := (O2_4.lt a e).1; omega)
  have O3_5 := World.ownsRow.kept ho4 (set_grown w4 a 1 (.slice q4 N4 c4)) hna4
  have O2_5 := World.ownsRow.kept O2_4 (set_grown w4 a 1 (.slice q4 N4 c4)) hna5
  have hb5 := hb4.setCell (p := ⟨a, 1, none⟩) (Nat.le_refl a) (.slice q4 N4 c4)
  have hm5 := hm4.trans (tabStay_set h1_4 1 (.slice q4 N4 c4))
  have T5 := Lib.hid (show TabS B a l2 (w4.setCell ⟨a, 1, none⟩ (.slice q4 N4 c4)) from ⟨_, _, h1_5, by rw [HN2.out]; exact O2_5, by rw [HN4.out]; exact O3_5, hn4⟩)
  have B5 := Lib.hid hb5; have M5 := Lib.hid hm5
  clear ho4 hg4 ha4 h1_4 O2_4 hn4 hb4 hm4 h1_5 O3_5 O2_5 hb5 hm5 hna4 hna5 hne4 P1 P2 P3 P4 P5 P6 HN2 HN4 hvl HVL HKL HK HV
  go_wp2
  go_ret
  exact ⟨rfl, T5.out, B5.out, M5.out⟩
end Go.Proofs.Ytiadljcfcncbkaa
