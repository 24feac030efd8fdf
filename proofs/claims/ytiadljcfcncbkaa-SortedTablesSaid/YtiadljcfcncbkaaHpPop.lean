/- sorted's heaps: Len and Pop. -/
import Derived.Test.YtiadljcfcncbkaaHpPush
import Derived.Test.YtiadljcfcncbkaaHpDraw
namespace Go.Proofs.Ytiadljcfcncbkaa
open Go Go.RowKit Hp
set_option linter.unusedVariables false

theorem sinkF_len (lt : E → E → Bool) : ∀ f l k, (sinkF lt f l k).length = l.length := by
  intro f
  induction f with
  | zero => intro l k; rfl
  | succ f ih =>
    intro l k
    rw [sinkF]
    split
    · split
      · rw [ih, sw_len]
      · rfl
    · rfl
theorem left_len (lt : E → E → Bool) (l : List E) : (Hp.left lt l).length = l.length - 1 := by
  unfold Hp.left Hp.sink
  rw [sinkF_len, List.length_take, List.length_set]; omega
set_option maxHeartbeats 1000000 in
set_option maxRecDepth 100000 in
theorem heapLen_is (B H : Nat) (F : FuncId) (caps : Array Value) (l : List E) (turn : Nat) (w : World) (hh : HeapAt B H F caps l turn w) :
    Calls Try.prog 36 #[.pointer (some ⟨H, 0, none⟩)] w fun e w' => e = .returned (.int .i64 (l.length : Int)) ∧ w' = w := by
  obtain ⟨v, hv, hown⟩ := hh
  obtain ⟨q, n, c, rfl, hn⟩ : ∃ q n c, v = .slice q n c ∧ n = l.length := by
    rcases hown.2 with ⟨rfl, h⟩ | ⟨g, cap, cur, rfl, _⟩
    · exact ⟨_, _, _, rfl, h.symm⟩
    · exact ⟨_, _, _, rfl, rfl⟩
  subst hn
  have c1 := (cell_of_row w H 1 _ _ _ hv).trans (show _ = some (Value.slice q l.length c) from rfl)
  clear hv hown
  go_enter Try.func36, Try.ntmps36
  go_wp2
  go_ret
  exact ⟨rfl, rfl⟩
set_option maxHeartbeats 4000000 in
set_option maxRecDepth 100000 in
theorem pop_none (B H : Nat) (F : FuncId) (caps : Array Value) (turn : Nat) (w : World) (hh : HeapAt B H F caps [] turn w) :
    Calls Try.prog 29 #[.pointer (some ⟨H, 0, none⟩)] w fun e w' => e = .returned (.tuple #[.int .i64 0, .bool false]) ∧ w' = w := by
  have LN := Lib.hid (heapLen_is B H F caps [] turn w hh)
  clear hh
  go_enter Try.func29, Try.ntmps29
  go_wp2_with fail
  refine LN.out.mono ?_
  rintro e w1 ⟨rfl, rfl⟩
  go_wp2_with fail
  first
    | exact bodyPost_ret (results_tmp2 rfl _ _ _) rfl ⟨rfl, rfl⟩
    | exact bodyPost_end (results_tmp2 rfl _ _ _) rfl ⟨rfl, rfl⟩
set_option maxHeartbeats 4000000 in
set_option maxRecDepth 100000 in
theorem pop_is (B H n : Nat) (F : FuncId) (caps : Array Value) (lt : E → E → Bool) (dom : E → Prop) (S : World → Prop) (T : Tell F caps lt dom S) (hL : Low B S) (l : List E) (turn : Nat) (w : World) (hh : HeapAt B H F caps l turn w) (hB : B ≤ H) (hd : ∀ e ∈ l, dom e) (hs : S w) (hN : l.length = n + 1) (hlen : n ≤ 1000000) :
    Calls Try.prog 29 #[.pointer (some ⟨H, 0, none⟩)] w fun e w' => e = .returned (.tuple #[.int .i64 (l.getD 0 d).1, .bool true]) ∧ HeapAt B H F caps (Hp.left lt l) turn w' ∧ Below B w w' ∧ Apart H w w' := by
  have LN := Lib.hid (heapLen_is B H F caps l turn w hh)
  rw [hN] at LN
  have hh2 := Lib.hid hh; have TT := Lib.hid T; have LL := Lib.hid hL; have SW := Lib.hid hs; have DM := Lib.hid hd; have HN := Lib.hid hN
  have hz : ¬ ((n + 1 : Nat) : Int) = 0 := by omega
  clear hh T hL hs hd hN
  go_enter Try.func29, Try.ntmps29
  go_wp2_with fail
  refine LN.out.mono ?_
  rintro e w1 ⟨rfl, rfl⟩
  go_wp2_with fail
  rename_i K hK
  obtain ⟨v, hv, hown⟩ := hh2.out
  obtain ⟨g, cap, rfl, hg0⟩ : ∃ g cap, v = .slice (some ⟨g, 0, none⟩) l.length cap ∧ B ≤ g := by
    rcases hown.2 with ⟨_, h⟩ | ⟨g, cap, cur, rfl, q1, _⟩
    · have := HN.out; omega
    · exact ⟨g, cap, rfl, q1⟩
  have r1 : ERow w1 B g cap l := hown
  have hHg : H ≠ g := fun e => own_ne hown hv (by decide) (by simp only [Value.ownBlock]; rw [e])
  have hA := heap_alloc_new w1 (.cells #[.int .i64 0, .int .i64 0] 89)
  have hb0 : Below w1.heap.size w1 (w1.alloc (.cells #[.int .i64 0, .int .i64 0] 89)) := (Below.refl _ w1).alloc (Nat.le_refl _) _
  have hHw := (Array.getElem?_eq_some_iff.1 hv).1
  have hgw := r1.lt
  rw [HN.out] at hv
  generalize w1.alloc (.cells #[.int .i64 0, .int .i64 0] 89) = wA at hA hb0 ⊢
  have VA := (hb0.block H hHw).trans hv
  have rA := r1.kept hb0
  have bA : Below B w1 wA := hb0.mono (by omega)
  have aA : Apart H w1 wA := fun k cs t m hk _ _ => (hb0.block k (Array.getElem?_eq_some_iff.1 hk).1).trans hk
  obtain ⟨r, hr⟩ : ∃ r, r = w1.heap.size := ⟨_, rfl⟩
  rw [← hr] at hA hHw hgw ⊢
  have hBr : B ≤ r := by omega
  clear hb0 hv hown r1 hr
  have hsA := LL.out _ _ SW.out bA
  have hszA : B ≤ wA.heap.size := by have := (Array.getElem?_eq_some_iff.1 VA).1; omega
  have TS : Tell F caps lt dom (fun V => S V ∧ B ≤ V.heap.size) := ⟨fun a b V h1 h2 h3 => TT.out.tell a b V h1 h2 h3.1, TT.out.enter⟩
  have FS : Free g (fun V => S V ∧ B ≤ V.heap.size) := fun V V' h hg => ⟨LL.out _ _ h.1 ⟨hg.os, hg.tape, hg.output, hg.size, fun k hk => hg.block k (by have := h.2; omega) (fun e => by injection e with e; omega)⟩, Nat.le_trans h.2 hg.size⟩
  have DR := draw_is B g cap n l F caps lt dom _ TS FS wA.drew rA DM.out ⟨LL.out _ _ hsA ⟨rfl, rfl, rfl, Nat.le_refl _, fun _ _ => rfl⟩, hszA⟩ HN.out hlen
  have hS0 : wA.drew.cell? ⟨H, 0, none⟩ = some (.func (.func F) #[] caps) := (cell_of_row wA.drew H 0 _ _ _ VA).trans rfl
  have h15 : wA.drew.cell? ⟨H, 1, none⟩ = some (.slice (some ⟨g, 0, none⟩) (n + 1) cap) := (cell_of_row wA.drew H 1 _ _ _ VA).trans rfl
  refine rg_calm (by kernel_rfl) rfl (S := fun V => V.cell? ⟨H, 0, none⟩ = some (.func (.func F) #[] caps)) ?_
  refine rgd_pure 0 (some 11) rfl rfl (.pointer (some ⟨H, 0, none⟩)) (by kernel_rfl) (by kernel_rfl) (by kernel_rfl) (fun _ _ _ _ h => h) (by kernel_rfl) (exec_is _ (.inl rfl) _ (by kernel_rfl)) hS0 ?_
  refine rgd_pure 1 (some 12) rfl rfl (.pointer (some ⟨H, 0, none⟩)) (by kernel_rfl) (by kernel_rfl) (by kernel_rfl) (fun _ _ _ _ h => h) (by kernel_rfl) (exec_is _ (.inl rfl) _ (by kernel_rfl)) hS0 ?_
  refine rgd_pure 2 (some 13) rfl rfl (.pointer (some ⟨H, 0, none⟩)) (by kernel_rfl) (by kernel_rfl) (by kernel_rfl) (fun _ _ _ _ h => h) (by kernel_rfl) (fun w => by kernel_rfl) hS0 ?_
  refine rgd_pure 3 (some 14) rfl rfl (.pointer (some ⟨H, 1, none⟩)) (by kernel_rfl) (by kernel_rfl) (by kernel_rfl) (fun _ _ _ _ h => h) (by kernel_rfl) (fun w => by kernel_rfl) hS0 ?_
  refine rgd_pure 5 (some 16) rfl rfl (.pointer (some ⟨H, 0, none⟩)) (by kernel_rfl) (by kernel_rfl) (by kernel_rfl) (fun _ _ _ _ h => h) (by kernel_rfl) (exec_is _ (.inl rfl) _ (by kernel_rfl)) hS0 ?_
  refine rgd_pure 6 (some 17) rfl rfl (.pointer (some ⟨H, 0, none⟩)) (by kernel_rfl) (by kernel_rfl) (by kernel_rfl) (fun _ _ _ _ h => h) (by kernel_rfl) (fun w => by kernel_rfl) hS0 ?_
  refine rgd_pure 7 (some 18) rfl rfl (.pointer (some ⟨H, 0, none⟩)) (by kernel_rfl) (by kernel_rfl) (by kernel_rfl) (fun _ _ _ _ h => h) (by kernel_rfl) (fun w => by kernel_rfl) hS0 ?_
  refine rgd_load 8 (some 19) rfl rfl (by kernel_rfl) (by kernel_rfl) (by kernel_rfl) (fun _ _ _ _ h => h) (by kernel_rfl) _ _ rfl Try.underlying71 rfl ⟨H, 0, none⟩ (.func (.func F) #[] caps) (by kernel_rfl) (fun V h => h) hS0 ?_
  refine rgd_run 4 (some 15) (by kernel_rfl) rfl rfl (by kernel_rfl) (.slice (some ⟨g, 0, none⟩) (n + 1) cap) wA.drew (exec_load1 _ _ rfl Try.underlying72 rfl ⟨H, 1, none⟩ (.slice (some ⟨g, 0, none⟩) (n + 1) cap) (by kernel_rfl) h15) hS0 ?_
  refine rgd_call 9 (some 20) (by kernel_rfl) rfl rfl (by kernel_rfl) 55 #[.slice (some ⟨g, 0, none⟩) (n + 1) cap, .func (.func F) #[] caps] (by kernel_rfl) DR ?_
  rintro e w2 ⟨rfl, r2, g2⟩
  have V2 := (g2.block H (Array.getElem?_eq_some_iff.1 VA).1 (fun e => by injection e with e; exact hHg e)).trans (show wA.drew.heap[H]? = _ from VA)
  have A2 := (g2.block r (Array.getElem?_eq_some_iff.1 hA).1 (fun e => by injection e with e; omega)).trans (show wA.drew.heap[r]? = _ from hA)
  have hrH : r ≠ H := by omega
  have hrg : r ≠ g := by omega
  have b2 : Below B w1 w2 := bA.trans ⟨g2.os, g2.tape, g2.output, g2.size, fun k hk => g2.block k (by show k < wA.heap.size; omega) (fun e => by injection e with e; omega)⟩
  have hS2 : w2.cell? ⟨H, 0, none⟩ = some (.func (.func F) #[] caps) := (cell_of_row w2 H 0 _ _ _ V2).trans rfl
  have A3 := set_cells2 (set_cells2 A2 (0 * 2) (.int .i64 (l.getD 0 d).1)) (0 * 2 + 1) (.int .i64 (l.getD 0 d).2)
  have g3a := set_grown w2 r (0 * 2) (.int .i64 (l.getD 0 d).1)
  have g3b := set_grown (w2.setCell ⟨r, 0 * 2, none⟩ (.int .i64 (l.getD 0 d).1)) r (0 * 2 + 1) (.int .i64 (l.getD 0 d).2)
  have g3 : w2.grownBy (setE w2 r 0 (l.getD 0 d)) (some r) := grown_trans g3a g3b
  have V3 := (g3.block H (Array.getElem?_eq_some_iff.1 V2).1 (fun e => by injection e with e; exact hrH e.symm)).trans V2
  have r3 : ERow (setE w2 r 0 (l.getD 0 d)) B g cap (Hp.left lt l) := World.ownsRow.kept r2 g3 (.inr (by simp only [Value.ownBlock]; intro e; injection e with e; exact hrg e.symm))
  have b3 : Below B w1 (setE w2 r 0 (l.getD 0 d)) := b2.trans ⟨g3.os, g3.tape, g3.output, g3.size, fun k hk => g3.block k (by have := b2.size; have := (Array.getElem?_eq_some_iff.1 V2).1; omega) (fun e => by injection e with e; omega)⟩
  have hS3 : (setE w2 r 0 (l.getD 0 d)).cell? ⟨H, 0, none⟩ = some (.func (.func F) #[] caps) := (cell_of_row _ H 0 _ _ _ V3).trans rfl
  have V4 := set_cellsH V3 1 (.slice (some ⟨g, 0, none⟩) n cap)
  have A4 := (set_grown (setE w2 r 0 (l.getD 0 d)) H 1 (.slice (some ⟨g, 0, none⟩) n cap)).block r (Array.getElem?_eq_some_iff.1 A3).1 (fun e => by injection e with e; exact hrH e)
  have A5 := A4.trans A3
  have r4 : ERow ((setE w2 r 0 (l.getD 0 d)).setCell ⟨H, 1, none⟩ (.slice (some ⟨g, 0, none⟩) n cap)) B g cap (Hp.left lt l) := World.ownsRow.kept r3 (set_grown _ H 1 _) (.inr (by simp only [Value.ownBlock]; intro e; injection e with e; exact hHg e.symm))
  have b4 : Below B w1 ((setE w2 r 0 (l.getD 0 d)).setCell ⟨H, 1, none⟩ (.slice (some ⟨g, 0, none⟩) n cap)) := b3.setCell (p := ⟨H, 1, none⟩) hB _
  have hS4 : ((setE w2 r 0 (l.getD 0 d)).setCell ⟨H, 1, none⟩ (.slice (some ⟨g, 0, none⟩) n cap)).cell? ⟨H, 0, none⟩ = some (.func (.func F) #[] caps) := (cell_of_row _ H 0 _ _ _ V4).trans rfl
  simp only [List.setIfInBounds_toArray, List.set_cons_succ, List.set_cons_zero, Nat.zero_mul, Nat.zero_add] at V4 A5
  have a4 : Apart H w1 ((setE w2 r 0 (l.getD 0 d)).setCell ⟨H, 1, none⟩ (.slice (some ⟨g, 0, none⟩) n cap)) := (aA.trans (Apart.trans (b := w2) (Apart.grown (w := wA.drew) rA g2) (fun k cs t m hk ht _ => (g3.block k (Array.getElem?_eq_some_iff.1 hk).1 (fun e => by injection e with e; subst e; rw [A2] at hk; cases hk; exact ht rfl)).trans hk))).trans (Apart.set _ H 1 _)
  have KF : K { tmps := #[.pointer (some ⟨H, 0, none⟩), undef, .int .i64 0, .bool false, undef, .pointer (some ⟨r, 0, none⟩), .pointer (some ⟨H, 0, none⟩), .int .i64 ((n : Int) + 1), .bool ((n : Int) + 1 == 0), undef, .tuple #[ev (l.getD 0 d), .slice (some ⟨g, 0, none⟩) n cap], .pointer (some ⟨H, 0, none⟩), .pointer (some ⟨H, 0, none⟩), .pointer (some ⟨H, 0, none⟩), .pointer (some ⟨H, 1, none⟩), .slice (some ⟨g, 0, none⟩) (n + 1) cap, .pointer (some ⟨H, 0, none⟩), .pointer (some ⟨H, 0, none⟩), .pointer (some ⟨H, 0, none⟩), .func (.func F) #[] caps, .tuple #[ev (l.getD 0 d), .slice (some ⟨g, 0, none⟩) n cap], ev (l.getD 0 d), .slice (some ⟨g, 0, none⟩) n cap, .pointer (some ⟨H, 0, none⟩), .pointer (some ⟨H, 1, none⟩), undef, undef], defers := [] } ((setE w2 r 0 (l.getD 0 d)).setCell ⟨H, 1, none⟩ (.slice (some ⟨g, 0, none⟩) n cap)) := by
    refine hK _ _ ?_
    have hll := left_len lt l
    rw [HN.out, Nat.add_sub_cancel] at hll
    have P4 : HeapAt B H F caps (Hp.left lt l) turn ((setE w2 r 0 (l.getD 0 d)).setCell ⟨H, 1, none⟩ (.slice (some ⟨g, 0, none⟩) n cap)) := ⟨.slice (some ⟨g, 0, none⟩) n cap, V4, by
      have h := r4
      unfold ERow at h
      rw [hll] at h ⊢
      exact h⟩
    have P4h := Lib.hid P4; have B4h := Lib.hid b4; have A4h := Lib.hid a4
    have c0 := (cell_of_row _ r 0 _ _ _ A5).trans (show _ = some (Value.int .i64 (l.getD 0 d).1) from rfl)
    clear hK V4 r4 P4 b4 a4 aA hll hS4 hS3 b3 r3 V3 g3 g3a g3b A3 hS2 b2 A2 V2 g2 r2 A4 A5 DR hS0 h15 TS FS hsA hszA hA VA rA bA
    generalize (setE w2 r 0 (l.getD 0 d)).setCell ⟨H, 1, none⟩ (.slice (some ⟨g, 0, none⟩) n cap) = w5 at P4h B4h A4h c0 ⊢
    go_wp2
    first
      | exact bodyPost_ret (results_tmp2 rfl _ _ _) rfl ⟨rfl, P4h.out, B4h.out, A4h.out⟩
      | exact bodyPost_end (results_tmp2 rfl _ _ _) rfl ⟨rfl, P4h.out, B4h.out, A4h.out⟩
  refine ⟨_, rfl, hS2, ?_⟩
  refine rgd_pure 10 (some 10) rfl rfl (.tuple #[ev (l.getD 0 d), .slice (some ⟨g, 0, none⟩) n cap]) (by kernel_rfl) (by kernel_rfl) (by kernel_rfl) (fun _ _ _ _ h => h) (by kernel_rfl) (exec_is _ (.inl rfl) _ (by kernel_rfl)) hS2 ?_
  refine rgd_pure 11 (some 21) rfl rfl (ev (l.getD 0 d)) (by kernel_rfl) (by kernel_rfl) (by kernel_rfl) (fun _ _ _ _ h => h) (by kernel_rfl) (exec_ext _ _ rfl #[ev (l.getD 0 d), .slice (some ⟨g, 0, none⟩) n cap] _ (by kernel_rfl) rfl) hS2 ?_
  refine rgd_pure 12 (some 22) rfl rfl (.slice (some ⟨g, 0, none⟩) n cap) (by kernel_rfl) (by kernel_rfl) (by kernel_rfl) (fun _ _ _ _ h => h) (by kernel_rfl) (exec_ext _ _ rfl #[ev (l.getD 0 d), .slice (some ⟨g, 0, none⟩) n cap] _ (by kernel_rfl) rfl) hS2 ?_
  refine rgd_do 13 none (by kernel_rfl) rfl rfl (by kernel_rfl) (setE w2 r 0 (l.getD 0 d)) (exec_storeBox _ _ rfl r (l.getD 0 d) _ _ (by kernel_rfl) (by kernel_rfl) A2) hS3 ?_
  refine rgd_pure 14 (some 23) rfl rfl (.pointer (some ⟨H, 0, none⟩)) (by kernel_rfl) (by kernel_rfl) (by kernel_rfl) (fun _ _ _ _ h => h) (by kernel_rfl) (fun w => by kernel_rfl) hS3 ?_
  refine rgd_pure 15 (some 24) rfl rfl (.pointer (some ⟨H, 1, none⟩)) (by kernel_rfl) (by kernel_rfl) (by kernel_rfl) (fun _ _ _ _ h => h) (by kernel_rfl) (fun w => by kernel_rfl) hS3 ?_
  refine rgd_do 16 none (by kernel_rfl) rfl rfl (by kernel_rfl) ((setE w2 r 0 (l.getD 0 d)).setCell ⟨H, 1, none⟩ (.slice (some ⟨g, 0, none⟩) n cap)) (exec_storeSl _ _ _ rfl (fun w => by kernel_rfl) ⟨H, 1, none⟩ _ _ _ (.slice (some ⟨g, 0, none⟩) (n + 1) cap) (by kernel_rfl) (by kernel_rfl) ((cell_of_row _ H 1 _ _ _ V3).trans rfl) (frozen_of_row _ H 1 _ _ V3)) hS4 ?_
  exact wpAnyH_done (by kernel_rfl) (Eq.mp (by kernel_rfl) KF) _
end Go.Proofs.Ytiadljcfcncbkaa
