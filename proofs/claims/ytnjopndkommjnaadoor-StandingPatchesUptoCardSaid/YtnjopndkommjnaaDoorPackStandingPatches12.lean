/- The statement StandingPatches, proved for every input that its row reads: part 12 of 54. -/
import Derived.Test.YtnjopndkommjnaaDoorPackStandingPatches11
/- standing.named: hits by their names. -/
namespace Go.Proofs.YtnjopndkommjnaaDoor
open Go Go.RowKit
set_option linter.unusedVariables false
set_option maxRecDepth 1000000

/-- a table made by a call -/
def RetNm (w : World) (L : List Ht) (e : Ending) (w' : World) : Prop := ∃ r c es, e = .returned (.map (some r)) ∧ NmT w' r c es (scoresOf L) ∧ w.heap.size ≤ r ∧ Below w.heap.size w w'
theorem updT_scores (l : List Ht) (h : Ht) : updT (scoresOf l) h.id (scoresOf l h.id ++ [h.score]) = scoresOf (l ++ [h]) := by
  funext x
  unfold updT
  rw [scoresOf_app]
  by_cases e : x = h.id
  · subst e; rw [if_pos rfl]; simp [scoresOf]
  · rw [if_neg e]; simp only [scoresOf]; rw [if_neg (fun q => e q.symm), List.append_nil]
theorem scores_le (l : List Ht) (id : ByteArray) : (scoresOf l id).length ≤ l.length := by
  induction l with
  | nil => exact Nat.le_refl _
  | cons h l ih => simp only [scoresOf]; split <;> simp <;> omega
theorem infoInt : (Tryd.prog.info? 3).map (fun i => (i.zero, i.size, i.bytes)) = some (some (.int .i64 0), 1, 8) := by kernel_rfl
/-- one score more behind a name's -/
theorem exec_more {w : World} (B : Nat) (v : Value) (l : List Int) (hown : w.ownsRow B 3 1 v l.length (icl l)) (g : Nat) (s : Int)
    (hg : w.heap[g]? = some (.cells #[.int .i64 s] 3 (0, 0))) (hl : l.length ≤ 1000000) (hB : B ≤ w.heap.size) :
    ∃ nv w', w'.ownsRow B 3 1 nv (l ++ [s]).length (icl (l ++ [s])) ∧ w.grownBy w' v.ownBlock ∧ (nv.ownBlock = v.ownBlock ∨ nv.ownBlock = some w.heap.size) ∧ nv.ownBlock ≠ none ∧
      ∀ (o : Oper) (a : Act) (x y : Operand) (ho : o.op = .call { callee := .builtin .append, args := #[x, y], argTypes := #[45, 45] }) (hty : o.type = 45) (hx : a.eval x = v) (hy : a.eval y = .slice (some ⟨g, 0, none⟩) 1 1), (execOp a.eval o).run Tryd.prog w = .ok (.value nv) w' := by
  have hi := infoInt
  cases hinfo : Tryd.prog.info? 3 with
  | none => rw [hinfo] at hi; cases hi
  | some i =>
    rw [hinfo] at hi
    simp only [Option.map_some, Option.some.injEq, Prod.mk.injEq] at hi
    obtain ⟨hz, hs, hb⟩ := hi
    obtain ⟨g', cap, w', hr, h2, h3, h4, h5⟩ := run_append_lies (P := Tryd.prog) w 45 45 B 3 i (.int .i64 0) 1 8 Tryd.underlying45 hinfo hz hs hb (by rfl) (by omega) v l.length (icl l) hown ⟨g, 0, none⟩ 1 1 [.int .i64 s] (by rfl)
      (fun j u hu => World.news_of_block hg j u hu) (by simp [Value.oneCell']) (by omega) (by unfold maxLen; omega) (by omega) hB _ rfl
    refine ⟨.slice (some ⟨g', 0, none⟩) (l.length + 1) cap, w', ?_, h3, ?_, by simp [Value.ownBlock], fun o a x y ho hty hx hy => ?_⟩
    · rw [icl_append, List.length_append]; exact h2
    · rcases h4 with h4 | h4
      · exact .inl (by rw [h4]; rfl)
      · right; rw [← h4]; rfl
    · unfold execOp
      simp only [ho, hty, resolve, invoke, builtin, Sem.run_bind, Sem.run_pure, Result.andThen_ok, List.map_toArray, List.map_cons, List.map_nil, hx, hy, hr]
theorem exec_look1 {P : Program} {o : Oper} {a : Act} {w : World} (t : TypeId) (x y : Operand) (ho : o.op = .lookup t x y false) (m k : Value) (hx : a.eval x = m) (hy : a.eval y = k) (v : Value) (hr : (Instr.lookup t m k false).run P w = .ok v w) : (execOp a.eval o).run P w = .ok (.value v) w := by
  unfold execOp
  simp only [ho, hx, hy]
  exact run_value_of hr
set_option maxHeartbeats 4000000 in
theorem named_is (p : Option Addr) (c : Nat) (L : List Ht) (w : World) (h : HtsAt w p L) (hn : L.length ≤ 10000) :
    Calls Tryd.prog 20 #[.slice p L.length c] w (RetNm w L) := by
  have HM := Lib.hid h
  clear h
  have hmm : (Instr.makeMap 43 (some (.int .i64 L.length))).run Tryd.prog w = .ok (.map (some w.heap.size)) (w.alloc (.map #[] 0)) := by
    unfold Instr.makeMap
    simp only [Sem.run_bind, run_underlying Tryd.underlying43, Result.andThen_ok]
    rfl
  go_enter Tryd.func20, Tryd.ntmps20
  have D3 := Lib.hid (nm_new w)
  have B3 := Lib.hid (below_alloc w (.map #[] 0))
  go_wp2_with fail
  clear hmm
  generalize w.alloc (.map #[] 0) = w3 at D3 B3 ⊢
  obtain ⟨r, hr⟩ : ∃ r, w.heap.size = r := ⟨_, rfl⟩
  rw [hr] at D3 ⊢
  have hrr : w.heap.size ≤ r := by omega
  clear hr
  go_loopw [11] (fun i wr => ∃ (j c' : Nat) (es : List (ByteArray × Value × Nat)), j ≤ L.length ∧ i = .int .i64 j ∧ Hid (NmT wr r c' es (scoresOf (L.take j))) ∧ Hid (Below w.heap.size w wr)) (fun i _ => L.length - (intOf i).toNat)
  case atStart => exact ⟨0, 0, [], Nat.zero_le _, rfl, D3, B3⟩
  case round =>
    obtain ⟨j, c', es, hj, rfl, DS, BB⟩ := hrel
    clear D3 B3
    by_cases hjl : j < L.length
    · have hjl' : (j : Int) < L.length := by omega
      obtain ⟨b, o, rfl, hlt, hr⟩ := (HM.out.below BB.out).at hjl
      obtain ⟨k0, k1⟩ := ht_cells hr
      have TK : Hid (L.take (j + 1) = L.take j ++ [L[j]]) := Lib.hid (List.take_succ_eq_append_getElem hjl)
      clear hr hlt
      obtain ⟨y, hy⟩ : ∃ y, L[j] = y := ⟨_, rfl⟩
      rw [hy] at k0 k1 TK
      clear hy
      obtain ⟨yi, ys⟩ := y
      simp only at k0 k1
      have b7 := below_alloc wr (.cells #[.string yi, .int .i64 ys] 28)
      have D7 := Lib.hid (DS.out.later b7)
      have h7 := heap_alloc_new wr (.cells #[.string yi, .int .i64 ys] 28)
      have B7 := Lib.hid (thenBelow BB.out b7)
      have lB := scores_le (L.take j) yi
      have lB2 : (L.take j).length = j := by rw [List.length_take]; omega
      have hGr := DS.out.lt
      go_wp2_with fail
      have K7 := Lib.hid b7
      clear k0 k1 b7
      obtain ⟨v, hva, hvo, hvl⟩ := DS.out.look yi
      have hvG := hvo.lt
      obtain ⟨G, hG⟩ : ∃ G, wr.heap.size = G := ⟨_, rfl⟩
      have zG : (wr.alloc (.cells #[.string yi, .int .i64 ys] 28)).heap.size = G + 1 := by simp [hG]
      rw [hG] at h7 hGr hvG ⊢
      generalize wr.alloc (.cells #[.string yi, .int .i64 ys] 28) = w7 at h7 D7 B7 K7 zG ⊢
      generalize hQ : Exit.inBlock _ _ = QX
      have DD : NmT w7.drew r c' es (scoresOf (L.take j)) := D7.out.later (w := w7) (to_drew (Below.refl _ _))
      have KE : ∀ (v nv : Value) (H c2 : Nat) (es2 : List (ByteArray × Value × Nat)) (V : World), NmT V r c2 es2 (scoresOf (L.take (j + 1))) → Below w.heap.size w V → QX .normal { tmps := #[.slice (some ⟨b, o, none⟩) L.length c, undef, .map none, .map (some r), undef, .pointer (some ⟨G, 0, none⟩), .slice (some ⟨b, o, none⟩) L.length c, .int .i64 (L.length : Int), .map (some r), .slice (some ⟨b, o, none⟩) L.length c, .int .i64 (L.length : Int), .int .i64 (j : Int), .bool true, .pointer (some ⟨b, o + j * 2, none⟩), .agg #[.string yi, .int .i64 ys], .map (some r), .pointer (some ⟨G, 0, none⟩), .string yi, .map (some r), .pointer (some ⟨G, 0, none⟩), .string yi, v, .pointer (some ⟨G, 1, none⟩), .int .i64 ys, .slice (some ⟨H, 0, none⟩) 1 1, nv, u26, undef], defers := [] } V := by
        intro v nv H c2 es2 V hV bV
        rw [← hQ]
        clear hQ DD
        have HV := Lib.hid hV; have BV := Lib.hid bV
        clear hV bV
        simp only [Exit.inBlock, Exit.then]
        go_wp2
        go_roundw
        case rel => exact ⟨j + 1, c2, es2, by omega, by go_num, HV, BV⟩
        case measure => simp [intOf]; omega
      have z0 : w7.drew.heap.size = G + 1 := zG
      have C0 := cell_of_row w7.drew G 0 _ _ _ h7
      have C1 := cell_of_row w7.drew G 1 _ _ _ h7
      have s0 : w7.drew.cell? ⟨G, 0, none⟩ = some (.string yi) ∧ w7.drew.cell? ⟨G, 1, none⟩ = some (.int .i64 ys) := ⟨C0, C1⟩
      have b7 : Below wr.heap.size wr w7.drew := to_drew K7.out
      have hvo := own_later hvo b7
      have bA := below_alloc w7.drew (.cells #[.int .i64 ys] 3)
      have sA : (w7.drew.alloc (.cells #[.int .i64 ys] 3)).cell? ⟨G, 0, none⟩ = some (.string yi) ∧ (w7.drew.alloc (.cells #[.int .i64 ys] 3)).cell? ⟨G, 1, none⟩ = some (.int .i64 ys) := ⟨cell_hold2 C0 bA, cell_hold2 C1 bA⟩
      have OA := own_later hvo bA
      have HA := heap_alloc_new w7.drew (.cells #[.int .i64 ys] 3)
      have zA := bA.size
      have hvG2 : ∀ k, v.ownBlock = some k → k ≠ G := fun k hk e => by have := hvG k hk; omega
      obtain ⟨nv, w8, o8, g8, f8, n8, E8⟩ := exec_more (r + 1) v _ OA w7.drew.heap.size ys HA (by omega) (by omega)
      have s8 : w8.cell? ⟨G, 0, none⟩ = some (.string yi) ∧ w8.cell? ⟨G, 1, none⟩ = some (.int .i64 ys) := ⟨g8.cell sA.1 (fun e => hvG2 _ e.symm rfl), g8.cell sA.2 (fun e => hvG2 _ e.symm rfl)⟩
      obtain ⟨w9, es9, c9, u9, n9, g9⟩ := DD.upd hva (⟨g8.os.trans bA.os, g8.tape.trans bA.tape, g8.output.trans bA.output, Nat.le_trans bA.size g8.size, fun i hi hne => (g8.block i (Nat.lt_of_lt_of_le hi bA.size) hne).trans (bA.block i hi)⟩) (by simp) o8 (by
        rcases f8 with f8 | f8
        · exact .inl f8
        · exact .inr ⟨_, f8, by simp⟩) n8
      have s9 : w9.cell? ⟨G, 0, none⟩ = some (.string yi) ∧ w9.cell? ⟨G, 1, none⟩ = some (.int .i64 ys) := ⟨g9.cell s8.1 (by simp; omega), g9.cell s8.2 (by simp; omega)⟩
      rw [show updT (scoresOf (L.take j)) yi (scoresOf (L.take j) yi ++ [ys]) = scoresOf (L.take (j + 1)) by rw [TK.out]; exact updT_scores _ ⟨yi, ys⟩] at n9
      have B8 : Below w.heap.size w w8 := ((to_drew B7.out).trans (bA.mono (to_drew B7.out).size)).grown g8 ((to_drew B7.out).trans (bA.mono (to_drew B7.out).size)).size (fun k hk => by have := hvG k hk; omega)
      have B9 : Below w.heap.size w w9 := B8.trans (grown_below g9 B8.size hrr)
      refine rg_last (by kernel_rfl) rfl (S := fun U => U.cell? ⟨G, 0, none⟩ = some (.string yi) ∧ U.cell? ⟨G, 1, none⟩ = some (.int .i64 ys)) ?_
      refine rgd_pure 0 (some 15) rfl rfl (.map (some r)) (by kernel_rfl) (by kernel_rfl) (by kernel_rfl) (fun _ _ _ _ h => h) (by kernel_rfl) (fun w => by kernel_rfl) s0 ?_
      refine rgd_pure 1 (some 16) rfl rfl (.pointer (some ⟨G, 0, none⟩)) (by kernel_rfl) (by kernel_rfl) (by kernel_rfl) (fun _ _ _ _ h => h) (by kernel_rfl) (fun w => by kernel_rfl) s0 ?_
      refine rgd_pureS 2 (some 17) rfl rfl (.string yi) (by kernel_rfl) (by kernel_rfl) (by kernel_rfl) (fun _ _ _ _ h => h) (by kernel_rfl) (fun U hU => exec_load1 _ _ rfl Tryd.underlying9 rfl ⟨G, 0, none⟩ _ (by kernel_rfl) hU.1) s0 ?_
      refine rgd_pure 3 (some 18) rfl rfl (.map (some r)) (by kernel_rfl) (by kernel_rfl) (by kernel_rfl) (fun _ _ _ _ h => h) (by kernel_rfl) (fun w => by kernel_rfl) s0 ?_
      refine rgd_pure 4 (some 19) rfl rfl (.pointer (some ⟨G, 0, none⟩)) (by kernel_rfl) (by kernel_rfl) (by kernel_rfl) (fun _ _ _ _ h => h) (by kernel_rfl) (fun w => by kernel_rfl) s0 ?_
      refine rgd_pureS 5 (some 20) rfl rfl (.string yi) (by kernel_rfl) (by kernel_rfl) (by kernel_rfl) (fun _ _ _ _ h => h) (by kernel_rfl) (fun U hU => exec_load1 _ _ rfl Tryd.underlying9 rfl ⟨G, 0, none⟩ _ (by kernel_rfl) hU.1) s0 ?_
      refine rgd_pure 7 (some 22) rfl rfl (.pointer (some ⟨G, 1, none⟩)) (by kernel_rfl) (by kernel_rfl) (by kernel_rfl) (fun _ _ _ _ h => h) (by kernel_rfl) (fun w => by kernel_rfl) s0 ?_
      refine rgd_pureS 8 (some 23) rfl rfl (.int .i64 ys) (by kernel_rfl) (by kernel_rfl) (by kernel_rfl) (fun _ _ _ _ h => h) (by kernel_rfl) (fun U hU => exec_load1 _ _ rfl Tryd.underlying3 rfl ⟨G, 1, none⟩ _ (by kernel_rfl) hU.2) s0 ?_
      refine rgd_acts 6 9 (some 21) (some 24) (by kernel_rfl) rfl rfl (by kernel_rfl) v w7.drew (exec_look1 _ _ _ rfl _ _ (by kernel_rfl) (by kernel_rfl) _ (hvl _ b7)) s0 rfl rfl (by kernel_rfl) (.slice (some ⟨w7.drew.heap.size, 0, none⟩) 1 1) (w7.drew.alloc (.cells #[.int .i64 ys] 3)) (by kernel_rfl) sA ?_ ?_
      · refine rgd_run 9 (some 24) (by kernel_rfl) rfl rfl (by kernel_rfl) (.slice (some ⟨w7.drew.heap.size, 0, none⟩) 1 1) (w7.drew.alloc (.cells #[.int .i64 ys] 3)) (by kernel_rfl) sA ?_
        refine rgd_run 10 (some 25) (by kernel_rfl) rfl rfl (by kernel_rfl) nv w8 (E8 _ _ _ _ rfl rfl (by kernel_rfl) (by kernel_rfl)) s8 ?_
        refine rgd_do 11 none (by kernel_rfl) rfl rfl (by kernel_rfl) w9 (exec_putR _ _ _ _ rfl _ _ _ (by kernel_rfl) (by kernel_rfl) (by kernel_rfl) u9) s9 ?_
        exact wpAnyH_done (by kernel_rfl) (Eq.mp (by kernel_rfl) (KE v nv w7.drew.heap.size c9 es9 w9 n9 B9)) _
      · refine rgd_run 6 (some 21) (by kernel_rfl) rfl rfl (by kernel_rfl) v (w7.drew.alloc (.cells #[.int .i64 ys] 3)) (exec_look1 _ _ _ rfl _ _ (by kernel_rfl) (by kernel_rfl) _ (hvl _ (thenBelow b7 bA))) sA ?_
        refine rgd_run 10 (some 25) (by kernel_rfl) rfl rfl (by kernel_rfl) nv w8 (E8 _ _ _ _ rfl rfl (by kernel_rfl) (by kernel_rfl)) s8 ?_
        refine rgd_do 11 none (by kernel_rfl) rfl rfl (by kernel_rfl) w9 (exec_putR _ _ _ _ rfl _ _ _ (by kernel_rfl) (by kernel_rfl) (by kernel_rfl) u9) s9 ?_
        exact wpAnyH_done (by kernel_rfl) (Eq.mp (by kernel_rfl) (KE v nv w7.drew.heap.size c9 es9 w9 n9 B9)) _
    · obtain rfl : j = L.length := by omega
      have hjl' : ¬ ((L.length : Nat) : Int) < L.length := by omega
      rw [List.take_length] at DS
      go_wp2
      go_ret
      exact ⟨r, c', es, rfl, DS.out, hrr, BB.out⟩
end Go.Proofs.YtnjopndkommjnaaDoor
