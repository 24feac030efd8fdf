/- sorted's best ones: Offer. -/
import Derived.Test.YtlajceamjodcjaaBsTell
import Derived.Test.YtlajceamjodcjaaHpPure
namespace Go.Proofs.Ytlajceamjodcjaa
open Go Go.RowKit Hp
set_option linter.unusedVariables false

set_option maxHeartbeats 4000000 in
set_option maxRecDepth 100000 in
theorem offer_no (B H : Nat) (k : Int) (F : FuncId) (caps : Array Value) (l : List E) (turn : Nat) (x : Int) (w : World) (hh : BestAt B H k F caps l turn w) (hk : k ≤ 0) :
    Calls Try.prog 38 #[.pointer (some ⟨H, 0, none⟩), .int .i64 x] w fun e w' => e = .returned (.tuple #[]) ∧ w' = w := by
  obtain ⟨v, hv, hown⟩ := hh
  have c0 := (cell_of_row w H 0 _ _ _ hv).trans (show _ = some (Value.int .i64 k) from rfl)
  have c1 := (cell_of_row w H 1 _ _ _ hv).trans (show _ = some (Value.func (.func F) #[] caps) from rfl)
  have hne : ∀ w : World, (binOp .eql 71 (.func (.func F) #[] caps) .nilFunc).run Try.prog w = .ok (.bool false) w := fun w => by kernel_rfl
  clear hv hown
  go_enter Try.func38, Try.ntmps38
  go_wp2
  exact bodyPost_ret (v := .tuple #[]) (by kernel_rfl) rfl ⟨rfl, rfl⟩
theorem ownE_slice {w : World} {B : Nat} {l : List E} {v : Value} (h : w.ownsRow B 89 2 v l.length (pc (ecs l))) : ∃ q c, v = .slice q l.length c := by
  rcases h.2 with ⟨rfl, e⟩ | ⟨g, cap, cur, rfl, _⟩
  · exact ⟨none, 0, by rw [e]⟩
  · exact ⟨_, cap, rfl⟩
theorem ownE_some {w : World} {B : Nat} {l : List E} {q : Option Addr} {c : Nat} (h : w.ownsRow B 89 2 (.slice q l.length c) l.length (pc (ecs l))) (hl : 0 < l.length) : ∃ g, q = some ⟨g, 0, none⟩ ∧ B ≤ g := by
  rcases h.2 with ⟨_, e⟩ | ⟨g, cap, cur, e, hB, _⟩
  · omega
  · injection e with e1 _ _
    exact ⟨g, e1, hB⟩
theorem thenBelowB {a b c : World} {B : Nat} (h : Below B a b) (k : Below b.heap.size b c) (hB : B ≤ b.heap.size) : Below B a c := h.trans (k.mono hB)
theorem sink_len (lt : E → E → Bool) (l : List E) : (Hp.sink lt l).length = l.length := by unfold Hp.sink; exact sinkF_len _ _ _ _
def bOffer (bt : E → E → Bool) (k : Int) (l : List E) (e : E) : List E := if (l.length : Int) < k then Hp.rise bt (l ++ [e]) else if bt (l.getD 0 d) e then Hp.sink bt (l.set 0 e) else l
set_option maxHeartbeats 4000000 in
set_option maxRecDepth 100000 in
theorem offer_is (B H : Nat) (k : Int) (F : FuncId) (caps : Array Value) (bt : E → E → Bool) (dom : E → Prop) (S : World → Prop) (T : Tell F caps bt dom S) (hL : Low B S) (l : List E) (turn : Nat) (x : Int) (w : World) (hh : BestAt B H k F caps l turn w) (hB : B ≤ H) (hd : ∀ e ∈ l, dom e) (hx : dom (x, (turn : Int))) (hs : S w) (hk : 0 < k) (hlen : l.length < 1000000) (ht : turn ≤ 1000000) :
    Calls Try.prog 38 #[.pointer (some ⟨H, 0, none⟩), .int .i64 x] w fun e w' => e = .returned (.tuple #[]) ∧ BestAt B H k F caps (bOffer bt k l (x, (turn : Int))) (turn + 1) w' ∧ Below B w w' ∧ Apart H w w' := by
  obtain ⟨v, hv, hown⟩ := hh
  have HV := Lib.hid hv; have OW := Lib.hid hown; have TT := Lib.hid T; have LL := Lib.hid hL; have SW := Lib.hid hs; have DM := Lib.hid hd; have DX := Lib.hid hx
  have c0 := (cell_of_row w H 0 _ _ _ hv).trans (show _ = some (Value.int .i64 k) from rfl)
  have c1 := (cell_of_row w H 1 _ _ _ hv).trans (show _ = some (Value.func (.func F) #[] caps) from rfl)
  have c3 := (cell_of_row w H 3 _ _ _ hv).trans (show _ = some (Value.int .i64 (turn : Int)) from rfl)
  have hHw := (Array.getElem?_eq_some_iff.1 hv).1
  have hne : ∀ w : World, (binOp .eql 71 (.func (.func F) #[] caps) .nilFunc).run Try.prog w = .ok (.bool false) w := fun w => by kernel_rfl
  have hk' : ¬ k ≤ 0 := by omega
  have f3 := frozen_of_row w H 3 _ _ hv
  obtain ⟨q, c, rfl⟩ := ownE_slice hown
  clear hv hown T hL hs hd hx
  go_enter Try.func38, Try.ntmps38
  obtain ⟨b0, hb0⟩ : ∃ b0, decide ((l.length : Int) < k) = b0 := ⟨_, rfl⟩
  have HB0 := Lib.hid hb0
  clear hb0
  go_wp2_with fail
  rename_i K3 hK3
  have V3 := set_cellsH HV.out 3 (.int .i64 ((turn : Int) + 1))
  simp only [List.setIfInBounds_toArray, List.set_cons_succ, List.set_cons_zero] at V3
  have z3 : (w.setCell ⟨H, 3, none⟩ (.int .i64 ((turn : Int) + 1))).heap.size = w.heap.size := by simp
  have V4 := (Below.heap_alloc (w.setCell ⟨H, 3, none⟩ (.int .i64 ((turn : Int) + 1))) (.cells #[.int .i64 x, .int .i64 (turn : Int)] 89) H (by rw [z3]; exact hHw)).trans V3
  have N4 := heap_alloc_new (w.setCell ⟨H, 3, none⟩ (.int .i64 ((turn : Int) + 1))) (.cells #[.int .i64 x, .int .i64 (turn : Int)] 89)
  rw [z3] at N4
  have hneH : some H ≠ (Value.slice q l.length c).ownBlock := own_ne OW.out HV.out (by decide)
  have O4 := (World.ownsRow.kept OW.out (set_grown w H 3 (.int .i64 ((turn : Int) + 1))) (.inr (fun e => hneH e.symm))).alloc (.cells #[.int .i64 x, .int .i64 (turn : Int)] 89)
  have B4 := ((Below.refl B w).setCell (p := ⟨H, 3, none⟩) hB (.int .i64 ((turn : Int) + 1))).alloc (by rw [z3]; omega) (.cells #[.int .i64 x, .int .i64 (turn : Int)] 89)
  have A4 : Apart H w ((w.setCell ⟨H, 3, none⟩ (.int .i64 ((turn : Int) + 1))).alloc (.cells #[.int .i64 x, .int .i64 (turn : Int)] 89)) := (Apart.set w H 3 _).trans (fun k cs t m hk _ _ => (Below.heap_alloc _ _ k (Array.getElem?_eq_some_iff.1 hk).1).trans hk)
  generalize hw4 : (w.setCell ⟨H, 3, none⟩ (.int .i64 ((turn : Int) + 1))).alloc (.cells #[.int .i64 x, .int .i64 (turn : Int)] 89) = w4 at V4 N4 O4 B4 A4 ⊢
  have HV4 := Lib.hid V4; have HN4 := Lib.hid N4; have OW4 := Lib.hid O4; have BW4 := Lib.hid B4; have AW4 := Lib.hid A4
  obtain ⟨n0, hn0⟩ : ∃ n0, n0 = w.heap.size := ⟨_, rfl⟩
  rw [← hn0] at HN4 ⊢
  have HN0 := Lib.hid hn0
  have HNE := Lib.hid (show some n0 ≠ (Value.slice q l.length c).ownBlock from fun e => by have := (OW.out.lt n0 e.symm).2; rw [hn0] at this; omega)
  have HNH := Lib.hid (show n0 ≠ H by rw [hn0]; omega)
  clear hw4 V3 z3 V4 N4 O4 B4 A4 c0 c1 c3 f3 hn0
  have hS : w4.drew.heap[H]? = some (Obj.cells #[.int .i64 k, .func (.func F) #[] caps, .slice q l.length c, .int .i64 ((turn : Int) + 1)] 77 (0, 0)) := HV4.out
  have KK3 : K3 { tmps := #[.pointer (some ⟨H, 0, none⟩), .int .i64 x, undef, undef, .pointer (some ⟨n0, 0, none⟩), .pointer (some ⟨H, 0, none⟩), .bool false, .bool false, .pointer (some ⟨H, 0, none⟩), .pointer (some ⟨H, 0, none⟩), .pointer (some ⟨H, 1, none⟩), .func (.func F) #[] caps, .bool false, .bool false, .bool false, .pointer (some ⟨H, 0, none⟩), .pointer (some ⟨H, 0, none⟩), .pointer (some ⟨H, 0, none⟩), .int .i64 k, .bool false, .bool false, .int .i64 x, .pointer (some ⟨H, 0, none⟩), .pointer (some ⟨H, 0, none⟩), .pointer (some ⟨H, 3, none⟩), .int .i64 (turn : Int), ev (x, (turn : Int)), .pointer (some ⟨H, 0, none⟩), .pointer (some ⟨H, 0, none⟩), .pointer (some ⟨H, 3, none⟩), .int .i64 (turn : Int), .int .i64 ((turn : Int) + 1), .pointer (some ⟨H, 0, none⟩), .pointer (some ⟨H, 3, none⟩), .pointer (some ⟨H, 0, none⟩), .pointer (some ⟨H, 0, none⟩), .pointer (some ⟨H, 2, none⟩), .slice q l.length c, .int .i64 (l.length : Int), .pointer (some ⟨H, 0, none⟩), .pointer (some ⟨H, 0, none⟩), .pointer (some ⟨H, 0, none⟩), .int .i64 k, .bool b0, undef, undef, undef, undef, undef, undef, undef, undef, undef, undef, undef, undef, undef, undef, undef, undef, undef, undef, undef, undef, undef, undef, undef, undef, undef, undef, undef, undef, undef, undef, undef, undef, undef, undef, undef, undef, undef, undef, undef, undef, undef, undef, undef, undef, undef, undef], defers := [] } w4.drew := by
    refine hK3 _ _ ?_
    clear hK3
    by_cases hlt : (l.length : Int) < k
    · obtain rfl : b0 = true := by rw [← HB0.out]; exact decide_eq_true hlt
      have HBR := Lib.hid (show bOffer bt k l (x, (turn : Int)) = Hp.rise bt (l ++ [(x, (turn : Int))]) from if_pos hlt)
      go_wp2_with fail
      rename_i K4 hK4
      obtain ⟨g, cap, w5, hrun, r5, hBg, b5, k5⟩ := run_pushE w4.drew.drew 72 B l (.slice q l.length c) OW4.out (x, (turn : Int)) (by omega) (by have := (Array.getElem?_eq_some_iff.1 HV4.out).1; show B ≤ w4.heap.size; omega)
      have hH4 := (Array.getElem?_eq_some_iff.1 HV4.out).1
      have hne5 : some H ≠ (Value.slice q l.length c).ownBlock := own_ne OW4.out HV4.out (by decide)
      have hS : w4.drew.drew.heap[H]? = some (Obj.cells #[.int .i64 k, .func (.func F) #[] caps, .slice q l.length c, .int .i64 ((turn : Int) + 1)] 77 (0, 0)) := HV4.out
      have hSA : (w4.drew.drew.alloc (.cells #[.int .i64 x, .int .i64 (turn : Int)] 89)).heap[H]? = some (Obj.cells #[.int .i64 k, .func (.func F) #[] caps, .slice q l.length c, .int .i64 ((turn : Int) + 1)] 77 (0, 0)) := (Below.heap_alloc _ _ H hH4).trans hS
      have hS5 : w5.heap[H]? = some (Obj.cells #[.int .i64 k, .func (.func F) #[] caps, .slice q l.length c, .int .i64 ((turn : Int) + 1)] 77 (0, 0)) := (k5 H hH4 hne5).trans hS
      have hc5 := (cell_of_row w5 H 2 _ _ _ hS5).trans (show _ = some (Value.slice q l.length c) from rfl)
      have hf5 := frozen_of_row w5 H 2 _ _ hS5
      have hV6 := set_cellsH hS5 2 (.slice (some ⟨g, 0, none⟩) (l ++ [(x, (turn : Int))]).length cap)
      simp only [List.setIfInBounds_toArray, List.set_cons_succ, List.set_cons_zero] at hV6
      have hgH : g ≠ H := fun e => own_ne (show w5.ownsRow B 89 2 _ _ _ from r5) hS5 (by decide) (by simp only [Value.ownBlock]; rw [e])
      have r6 : ERow (w5.setCell ⟨H, 2, none⟩ (.slice (some ⟨g, 0, none⟩) (l ++ [(x, (turn : Int))]).length cap)) B g cap (l ++ [(x, (turn : Int))]) := World.ownsRow.kept r5 (set_grown w5 H 2 _) (.inr (by simp only [Value.ownBlock]; intro e; injection e with e; exact hgH e))
      have b6 : Below B w (w5.setCell ⟨H, 2, none⟩ (.slice (some ⟨g, 0, none⟩) (l ++ [(x, (turn : Int))]).length cap)) := (BW4.out.trans (show Below B w4 w5 from ⟨b5.os, b5.tape, b5.output, b5.size, b5.block⟩)).setCell (p := ⟨H, 2, none⟩) hB _
      have a6 : Apart H w (w5.setCell ⟨H, 2, none⟩ (.slice (some ⟨g, 0, none⟩) (l ++ [(x, (turn : Int))]).length cap)) := AW4.out.trans (Apart.trans (b := w5) (fun k cs t m hk ht _ => (k5 k (Array.getElem?_eq_some_iff.1 hk).1 (own_ne OW4.out hk ht)).trans hk) (Apart.set w5 H 2 _))
      have KF : K4 { tmps := #[.pointer (some ⟨H, 0, none⟩), .int .i64 x, undef, undef, .pointer (some ⟨n0, 0, none⟩), .pointer (some ⟨H, 0, none⟩), .bool false, .bool false, .pointer (some ⟨H, 0, none⟩), .pointer (some ⟨H, 0, none⟩), .pointer (some ⟨H, 1, none⟩), .func (.func F) #[] caps, .bool false, .bool false, .bool false, .pointer (some ⟨H, 0, none⟩), .pointer (some ⟨H, 0, none⟩), .pointer (some ⟨H, 0, none⟩), .int .i64 k, .bool false, .bool false, .int .i64 x, .pointer (some ⟨H, 0, none⟩), .pointer (some ⟨H, 0, none⟩), .pointer (some ⟨H, 3, none⟩), .int .i64 (turn : Int), ev (x, (turn : Int)), .pointer (some ⟨H, 0, none⟩), .pointer (some ⟨H, 0, none⟩), .pointer (some ⟨H, 3, none⟩), .int .i64 (turn : Int), .int .i64 ((turn : Int) + 1), .pointer (some ⟨H, 0, none⟩), .pointer (some ⟨H, 3, none⟩), .pointer (some ⟨H, 0, none⟩), .pointer (some ⟨H, 0, none⟩), .pointer (some ⟨H, 2, none⟩), .slice q l.length c, .int .i64 (l.length : Int), .pointer (some ⟨H, 0, none⟩), .pointer (some ⟨H, 0, none⟩), .pointer (some ⟨H, 0, none⟩), .int .i64 k, .bool true, .pointer (some ⟨H, 0, none⟩), .pointer (some ⟨H, 0, none⟩), .pointer (some ⟨H, 0, none⟩), .pointer (some ⟨H, 2, none⟩), .slice q l.length c, ev (x, (turn : Int)), .slice (some ⟨w4.heap.size, 0, none⟩) 1 1, .slice (some ⟨g, 0, none⟩) (l ++ [(x, (turn : Int))]).length cap, .pointer (some ⟨H, 0, none⟩), .pointer (some ⟨H, 2, none⟩), undef, undef, undef, undef, undef, undef, undef, undef, undef, undef, undef, undef, undef, undef, undef, undef, undef, undef, undef, undef, undef, undef, undef, undef, undef, undef, undef, undef, undef, undef, undef, undef, undef, undef, undef, undef], defers := [] } (w5.setCell ⟨H, 2, none⟩ (.slice (some ⟨g, 0, none⟩) (l ++ [(x, (turn : Int))]).length cap)) := by
        refine hK4 _ _ ?_
        clear hK4 hrun hc5 hf5 hS hSA hS5 k5 b5 r5 hne5
        have V6h := Lib.hid hV6; have R6 := Lib.hid r6; have B6 := Lib.hid b6; have A6 := Lib.hid a6
        clear hV6 r6 b6 a6
        generalize w5.setCell ⟨H, 2, none⟩ (.slice (some ⟨g, 0, none⟩) (l ++ [(x, (turn : Int))]).length cap) = w6 at V6h R6 B6 A6 ⊢
        go_wp2_with fail
        rename_i Q3 _
        have V5 : w6.drew.heap[H]? = some (Obj.cells #[.int .i64 k, .func (.func F) #[] caps, .slice (some ⟨g, 0, none⟩) (l ++ [(x, (turn : Int))]).length cap, .int .i64 ((turn : Int) + 1)] 77 (0, 0)) := V6h.out
        refine rg_last (by kernel_rfl) rfl (S := fun V => V.heap[H]? = some (Obj.cells #[.int .i64 k, .func (.func F) #[] caps, .slice (some ⟨g, 0, none⟩) (l ++ [(x, (turn : Int))]).length cap, .int .i64 ((turn : Int) + 1)] 77 (0, 0))) ?_
        refine rgd_pure 0 (some 54) rfl rfl (.pointer (some ⟨H, 0, none⟩)) (by kernel_rfl) (by kernel_rfl) (by kernel_rfl) (fun _ _ _ _ h => h) (by kernel_rfl) (exec_is _ (.inl rfl) _ (by kernel_rfl)) V5 ?_
        refine rgd_pure 1 (some 55) rfl rfl (.pointer (some ⟨H, 0, none⟩)) (by kernel_rfl) (by kernel_rfl) (by kernel_rfl) (fun _ _ _ _ h => h) (by kernel_rfl) (fun w => by kernel_rfl) V5 ?_
        refine rgd_pure 2 (some 56) rfl rfl (.pointer (some ⟨H, 2, none⟩)) (by kernel_rfl) (by kernel_rfl) (by kernel_rfl) (fun _ _ _ _ h => h) (by kernel_rfl) (fun w => by kernel_rfl) V5 ?_
        refine rgd_load 3 (some 57) rfl rfl (by kernel_rfl) (by kernel_rfl) (by kernel_rfl) (fun _ _ _ _ h => h) (by kernel_rfl) _ _ rfl Try.underlying72 rfl ⟨H, 2, none⟩ (.slice (some ⟨g, 0, none⟩) (l ++ [(x, (turn : Int))]).length cap) (by kernel_rfl) (fun V h => (cell_of_row V H 2 _ _ _ h).trans rfl) V5 ?_
        refine rgd_pure 4 (some 58) rfl rfl (.pointer (some ⟨H, 0, none⟩)) (by kernel_rfl) (by kernel_rfl) (by kernel_rfl) (fun _ _ _ _ h => h) (by kernel_rfl) (exec_is _ (.inl rfl) _ (by kernel_rfl)) V5 ?_
        refine rgd_pure 5 (some 59) rfl rfl (.pointer (some ⟨H, 0, none⟩)) (by kernel_rfl) (by kernel_rfl) (by kernel_rfl) (fun _ _ _ _ h => h) (by kernel_rfl) (fun w => by kernel_rfl) V5 ?_
        refine rgd_pure 6 (some 60) rfl rfl (.pointer (some ⟨H, 1, none⟩)) (by kernel_rfl) (by kernel_rfl) (by kernel_rfl) (fun _ _ _ _ h => h) (by kernel_rfl) (fun w => by kernel_rfl) V5 ?_
        refine rgd_load 7 (some 61) rfl rfl (by kernel_rfl) (by kernel_rfl) (by kernel_rfl) (fun _ _ _ _ h => h) (by kernel_rfl) _ _ rfl Try.underlying71 rfl ⟨H, 1, none⟩ (.func (.func F) #[] caps) (by kernel_rfl) (fun V h => (cell_of_row V H 1 _ _ _ h).trans rfl) V5 ?_
        have hBs : B ≤ w6.drew.heap.size := by have := (Array.getElem?_eq_some_iff.1 V5).1; omega
        have TS : Tell F caps bt dom (fun V => S V ∧ B ≤ V.heap.size) := ⟨fun a b V h1 h2 h3 => TT.out.tell a b V h1 h2 h3.1, TT.out.enter⟩
        have FS : Free g (fun V => S V ∧ B ≤ V.heap.size) := fun V V' h hg => ⟨LL.out _ _ h.1 ⟨hg.os, hg.tape, hg.output, hg.size, fun k hk => hg.block k (by have := h.2; omega) (fun e => by injection e with e; omega)⟩, Nat.le_trans h.2 hg.size⟩
        have hdm : ∀ e ∈ (l ++ [(x, (turn : Int))]), dom e := by
          intro e he
          rcases (show e ∈ l ∨ e = (x, (turn : Int)) from by simpa using he) with he | he
          · exact DM.out e he
          · rw [he]; exact DX.out
        have hcall := rise_is B g cap (l ++ [(x, (turn : Int))]) F caps bt dom _ TS FS w6.drew R6.out hdm ⟨LL.out _ _ SW.out (show Below B w w6.drew from ⟨B6.out.os, B6.out.tape, B6.out.output, B6.out.size, B6.out.block⟩), hBs⟩ (by simp) (by rw [List.length_append, List.length_singleton]; omega)
        refine rgd_call 8 (some 62) (by kernel_rfl) rfl rfl (by kernel_rfl) 54 #[.slice (some ⟨g, 0, none⟩) (l ++ [(x, (turn : Int))]).length cap, .func (.func F) #[] caps] (by kernel_rfl) hcall ?_
        rintro e w7 ⟨rfl, r7, g7⟩
        have V7 := (g7.block H (Array.getElem?_eq_some_iff.1 V5).1 (fun e => by injection e with e; exact hgH e.symm)).trans V5
        refine ⟨_, rfl, V7, ?_⟩
        have B7 : Below B w w7 := (show Below B w w6.drew from ⟨B6.out.os, B6.out.tape, B6.out.output, B6.out.size, B6.out.block⟩).trans ⟨g7.os, g7.tape, g7.output, g7.size, fun k hk => g7.block k (by omega) (fun e => by injection e with e; omega)⟩
        have KE : Q3 .normal { tmps := #[.pointer (some ⟨H, 0, none⟩), .int .i64 x, undef, undef, .pointer (some ⟨n0, 0, none⟩), .pointer (some ⟨H, 0, none⟩), .bool false, .bool false, .pointer (some ⟨H, 0, none⟩), .pointer (some ⟨H, 0, none⟩), .pointer (some ⟨H, 1, none⟩), .func (.func F) #[] caps, .bool false, .bool false, .bool false, .pointer (some ⟨H, 0, none⟩), .pointer (some ⟨H, 0, none⟩), .pointer (some ⟨H, 0, none⟩), .int .i64 k, .bool false, .bool false, .int .i64 x, .pointer (some ⟨H, 0, none⟩), .pointer (some ⟨H, 0, none⟩), .pointer (some ⟨H, 3, none⟩), .int .i64 (turn : Int), ev (x, (turn : Int)), .pointer (some ⟨H, 0, none⟩), .pointer (some ⟨H, 0, none⟩), .pointer (some ⟨H, 3, none⟩), .int .i64 (turn : Int), .int .i64 ((turn : Int) + 1), .pointer (some ⟨H, 0, none⟩), .pointer (some ⟨H, 3, none⟩), .pointer (some ⟨H, 0, none⟩), .pointer (some ⟨H, 0, none⟩), .pointer (some ⟨H, 2, none⟩), .slice q l.length c, .int .i64 (l.length : Int), .pointer (some ⟨H, 0, none⟩), .pointer (some ⟨H, 0, none⟩), .pointer (some ⟨H, 0, none⟩), .int .i64 k, .bool true, .pointer (some ⟨H, 0, none⟩), .pointer (some ⟨H, 0, none⟩), .pointer (some ⟨H, 0, none⟩), .pointer (some ⟨H, 2, none⟩), .slice q l.length c, ev (x, (turn : Int)), .slice (some ⟨w4.heap.size, 0, none⟩) 1 1, .slice (some ⟨g, 0, none⟩) (l.length + 1) cap, .pointer (some ⟨H, 0, none⟩), .pointer (some ⟨H, 2, none⟩), .pointer (some ⟨H, 0, none⟩), .pointer (some ⟨H, 0, none⟩), .pointer (some ⟨H, 2, none⟩), .slice (some ⟨g, 0, none⟩) (l ++ [(x, (turn : Int))]).length cap, .pointer (some ⟨H, 0, none⟩), .pointer (some ⟨H, 0, none⟩), .pointer (some ⟨H, 1, none⟩), .func (.func F) #[] caps, .tuple #[], undef, undef, undef, undef, undef, undef, undef, undef, undef, undef, undef, undef, undef, undef, undef, undef, undef, undef, undef, undef, undef, undef, undef, undef, undef, undef, undef], defers := [] } w7 := by
          have P7 : BestAt B H k F caps (bOffer bt k l (x, (turn : Int))) (turn + 1) w7 := by
            rw [show bOffer bt k l (x, (turn : Int)) = Hp.rise bt (l ++ [(x, (turn : Int))]) from HBR.out]
            refine ⟨.slice (some ⟨g, 0, none⟩) (l ++ [(x, (turn : Int))]).length cap, by rw [show ((turn + 1 : Nat) : Int) = (turn : Int) + 1 from by omega]; exact V7, ?_⟩
            have h := r7
            unfold ERow at h
            rw [rise_len] at h ⊢
            exact h
          exact bodyPost_end (v := .tuple #[]) (by kernel_rfl) (by kernel_rfl) ⟨rfl, P7, B7, Apart.trans (b := w6) A6.out (Apart.grown (w := w6.drew) R6.out g7)⟩
        exact wpAnyH_done (by kernel_rfl) (Eq.mp (by kernel_rfl) KE) _
      have hT : (fun V : World => V.heap[n0]? = some (Obj.cells #[.int .i64 x, .int .i64 (turn : Int)] 89 (0, 0))) w4.drew.drew := HN4.out
      have hTA : (fun V : World => V.heap[n0]? = some (Obj.cells #[.int .i64 x, .int .i64 (turn : Int)] 89 (0, 0))) (w4.drew.drew.alloc (.cells #[.int .i64 x, .int .i64 (turn : Int)] 89)) := (Below.heap_alloc _ _ n0 (Array.getElem?_eq_some_iff.1 HN4.out).1).trans HN4.out
      have hT5 : (fun V : World => V.heap[n0]? = some (Obj.cells #[.int .i64 x, .int .i64 (turn : Int)] 89 (0, 0))) w5 := (k5 n0 (Array.getElem?_eq_some_iff.1 HN4.out).1 HNE.out).trans HN4.out
      have hT6 : (fun V : World => V.heap[n0]? = some (Obj.cells #[.int .i64 x, .int .i64 (turn : Int)] 89 (0, 0))) (w5.setCell ⟨H, 2, none⟩ (.slice (some ⟨g, 0, none⟩) (l ++ [(x, (turn : Int))]).length cap)) := (Below.heap_setCell w5 ⟨H, 2, none⟩ _ n0 HNH.out).trans hT5
      refine rg_calm (by kernel_rfl) rfl (S := (fun V : World => V.heap[n0]? = some (Obj.cells #[.int .i64 x, .int .i64 (turn : Int)] 89 (0, 0)))) ?_
      refine rgd_pure 0 (some 44) rfl rfl (.pointer (some ⟨H, 0, none⟩)) (by kernel_rfl) (by kernel_rfl) (by kernel_rfl) (fun _ _ _ _ h => h) (by kernel_rfl) (exec_is _ (.inl rfl) _ (by kernel_rfl)) hT ?_
      refine rgd_pure 1 (some 45) rfl rfl (.pointer (some ⟨H, 0, none⟩)) (by kernel_rfl) (by kernel_rfl) (by kernel_rfl) (fun _ _ _ _ h => h) (by kernel_rfl) (exec_is _ (.inl rfl) _ (by kernel_rfl)) hT ?_
      refine rgd_pure 2 (some 46) rfl rfl (.pointer (some ⟨H, 0, none⟩)) (by kernel_rfl) (by kernel_rfl) (by kernel_rfl) (fun _ _ _ _ h => h) (by kernel_rfl) (fun w => by kernel_rfl) hT ?_
      refine rgd_pure 3 (some 47) rfl rfl (.pointer (some ⟨H, 2, none⟩)) (by kernel_rfl) (by kernel_rfl) (by kernel_rfl) (fun _ _ _ _ h => h) (by kernel_rfl) (fun w => by kernel_rfl) hT ?_
      refine rgd_pureS 5 (some 49) rfl rfl (ev (x, (turn : Int))) (by kernel_rfl) (by kernel_rfl) (by kernel_rfl) (fun _ _ _ _ h => h) (by kernel_rfl) (fun W h => exec_loadE _ rfl n0 0 (x, (turn : Int)) (by kernel_rfl) ((cell_of_row W n0 0 _ _ _ h).trans rfl) ((cell_of_row W n0 1 _ _ _ h).trans rfl)) hT ?_
      refine rgd_acts 4 6 (some 48) (some 50) (by kernel_rfl) rfl rfl (by kernel_rfl) (.slice q l.length c) w4.drew.drew (exec_load1 _ _ rfl Try.underlying72 rfl ⟨H, 2, none⟩ (.slice q l.length c) (by kernel_rfl) ((cell_of_row _ H 2 _ _ _ hS).trans rfl)) hT rfl rfl (by kernel_rfl) (.slice (some ⟨w4.heap.size, 0, none⟩) 1 1) (w4.drew.drew.alloc (.cells #[.int .i64 x, .int .i64 (turn : Int)] 89)) (by kernel_rfl) hTA ?_ ?_
      · refine rgd_run 6 (some 50) (by kernel_rfl) rfl rfl (by kernel_rfl) (.slice (some ⟨w4.heap.size, 0, none⟩) 1 1) (w4.drew.drew.alloc (.cells #[.int .i64 x, .int .i64 (turn : Int)] 89)) (by kernel_rfl) hTA ?_
        refine rgd_run 7 (some 51) (by kernel_rfl) rfl rfl (by kernel_rfl) (.slice (some ⟨g, 0, none⟩) (l ++ [(x, (turn : Int))]).length cap) w5 (exec_push _ _ rfl _ _ _ (by kernel_rfl) (by kernel_rfl) hrun) hT5 ?_
        refine rgd_pure 8 (some 52) rfl rfl (.pointer (some ⟨H, 0, none⟩)) (by kernel_rfl) (by kernel_rfl) (by kernel_rfl) (fun _ _ _ _ h => h) (by kernel_rfl) (fun w => by kernel_rfl) hT5 ?_
        refine rgd_pure 9 (some 53) rfl rfl (.pointer (some ⟨H, 2, none⟩)) (by kernel_rfl) (by kernel_rfl) (by kernel_rfl) (fun _ _ _ _ h => h) (by kernel_rfl) (fun w => by kernel_rfl) hT5 ?_
        refine rgd_do 10 none (by kernel_rfl) rfl rfl (by kernel_rfl) _ (exec_storeSl _ _ _ rfl (fun w => by kernel_rfl) ⟨H, 2, none⟩ _ _ _ (.slice q l.length c) (by kernel_rfl) (by kernel_rfl) hc5 hf5) hT6 ?_
        exact wpAnyH_done (by kernel_rfl) (Eq.mp (by kernel_rfl) KF) _
      · refine rgd_run 4 (some 48) (by kernel_rfl) rfl rfl (by kernel_rfl) (.slice q l.length c) _ (exec_load1 _ _ rfl Try.underlying72 rfl ⟨H, 2, none⟩ (.slice q l.length c) (by kernel_rfl) ((cell_of_row _ H 2 _ _ _ hSA).trans rfl)) hTA ?_
        refine rgd_run 7 (some 51) (by kernel_rfl) rfl rfl (by kernel_rfl) (.slice (some ⟨g, 0, none⟩) (l ++ [(x, (turn : Int))]).length cap) w5 (exec_push _ _ rfl _ _ _ (by kernel_rfl) (by kernel_rfl) hrun) hT5 ?_
        refine rgd_pure 8 (some 52) rfl rfl (.pointer (some ⟨H, 0, none⟩)) (by kernel_rfl) (by kernel_rfl) (by kernel_rfl) (fun _ _ _ _ h => h) (by kernel_rfl) (fun w => by kernel_rfl) hT5 ?_
        refine rgd_pure 9 (some 53) rfl rfl (.pointer (some ⟨H, 2, none⟩)) (by kernel_rfl) (by kernel_rfl) (by kernel_rfl) (fun _ _ _ _ h => h) (by kernel_rfl) (fun w => by kernel_rfl) hT5 ?_
        refine rgd_do 10 none (by kernel_rfl) rfl rfl (by kernel_rfl) _ (exec_storeSl _ _ _ rfl (fun w => by kernel_rfl) ⟨H, 2, none⟩ _ _ _ (.slice q l.length c) (by kernel_rfl) (by kernel_rfl) hc5 hf5) hT6 ?_
        exact wpAnyH_done (by kernel_rfl) (Eq.mp (by kernel_rfl) KF) _
    · obtain rfl : b0 = false := by rw [← HB0.out]; exact decide_eq_false hlt
      have hl0 : 0 < l.length := by omega
      obtain ⟨g, rfl, hBg⟩ := ownE_some OW.out hl0
      have R4 : ERow w4 B g c l := OW4.out
      have hgH : g ≠ H := fun e => hneH (by rw [← e]; rfl)
      have hgN : g ≠ n0 := fun e => HNE.out (by rw [← e]; rfl)
      obtain ⟨e0, he0⟩ : ∃ e0, l.getD 0 d = e0 := ⟨_, rfl⟩
      have hde : dom e0 := by rw [← he0]; exact dom_at DM.out hl0
      have HDE := Lib.hid hde
      obtain ⟨b1, hb1⟩ : ∃ b1, bt e0 (x, (turn : Int)) = b1 := ⟨_, rfl⟩
      have HB1 := Lib.hid hb1
      have HBO := Lib.hid (show bOffer bt k l (x, (turn : Int)) = if bt e0 (x, (turn : Int)) then Hp.sink bt (l.set 0 (x, (turn : Int))) else l from by rw [← he0]; exact if_neg hlt)
      have RW4 := Lib.hid R4
      have HC0 := Lib.hid (show ∀ V, ERow V B g c l → V.cell? ⟨g, 0 * 2, none⟩ = some (.int .i64 e0.1) ∧ V.cell? ⟨g, 0 * 2 + 1, none⟩ = some (.int .i64 e0.2) from fun V h => by rw [← he0]; exact h.cells 0 hl0)
      clear hb1 R4 hneH he0 hde
      go_wp2_with fail
      rename_i K6 hK6
      have hS6 : (fun V : World => ERow V B g c l ∧ V.heap[H]? = some (Obj.cells #[.int .i64 k, .func (.func F) #[] caps, .slice (some ⟨g, 0, none⟩) l.length c, .int .i64 ((turn : Int) + 1)] 77 (0, 0)) ∧ V.heap[n0]? = some (Obj.cells #[.int .i64 x, .int .i64 (turn : Int)] 89 (0, 0)) ∧ Below B w V ∧ Apart H w V ∧ S V) w4.drew.drew := ⟨RW4.out, HV4.out, HN4.out, ⟨BW4.out.os, BW4.out.tape, BW4.out.output, BW4.out.size, BW4.out.block⟩, AW4.out, LL.out _ _ SW.out ⟨BW4.out.os, BW4.out.tape, BW4.out.output, BW4.out.size, BW4.out.block⟩⟩
      have hB6 : B ≤ w4.drew.drew.heap.size := by have := (Array.getElem?_eq_some_iff.1 HV4.out).1; show B ≤ w4.heap.size; omega
      have KK6 : ∀ V : World, (fun V : World => ERow V B g c l ∧ V.heap[H]? = some (Obj.cells #[.int .i64 k, .func (.func F) #[] caps, .slice (some ⟨g, 0, none⟩) l.length c, .int .i64 ((turn : Int) + 1)] 77 (0, 0)) ∧ V.heap[n0]? = some (Obj.cells #[.int .i64 x, .int .i64 (turn : Int)] 89 (0, 0)) ∧ Below B w V ∧ Apart H w V ∧ S V) V → K6 { tmps := #[.pointer (some ⟨H, 0, none⟩), .int .i64 x, undef, undef, .pointer (some ⟨n0, 0, none⟩), .pointer (some ⟨H, 0, none⟩), .bool false, .bool false, .pointer (some ⟨H, 0, none⟩), .pointer (some ⟨H, 0, none⟩), .pointer (some ⟨H, 1, none⟩), .func (.func F) #[] caps, .bool false, .bool false, .bool false, .pointer (some ⟨H, 0, none⟩), .pointer (some ⟨H, 0, none⟩), .pointer (some ⟨H, 0, none⟩), .int .i64 k, .bool false, .bool false, .int .i64 x, .pointer (some ⟨H, 0, none⟩), .pointer (some ⟨H, 0, none⟩), .pointer (some ⟨H, 3, none⟩), .int .i64 (turn : Int), ev (x, (turn : Int)), .pointer (some ⟨H, 0, none⟩), .pointer (some ⟨H, 0, none⟩), .pointer (some ⟨H, 3, none⟩), .int .i64 (turn : Int), .int .i64 ((turn : Int) + 1), .pointer (some ⟨H, 0, none⟩), .pointer (some ⟨H, 3, none⟩), .pointer (some ⟨H, 0, none⟩), .pointer (some ⟨H, 0, none⟩), .pointer (some ⟨H, 2, none⟩), .slice (some ⟨g, 0, none⟩) l.length c, .int .i64 (l.length : Int), .pointer (some ⟨H, 0, none⟩), .pointer (some ⟨H, 0, none⟩), .pointer (some ⟨H, 0, none⟩), .int .i64 k, .bool false, undef, undef, undef, undef, undef, undef, undef, undef, undef, undef, undef, undef, undef, undef, undef, undef, undef, undef, undef, .pointer (some ⟨H, 0, none⟩), .pointer (some ⟨H, 0, none⟩), .pointer (some ⟨H, 1, none⟩), .func (.func F) #[] caps, .pointer (some ⟨H, 0, none⟩), .pointer (some ⟨H, 0, none⟩), .pointer (some ⟨H, 2, none⟩), .slice (some ⟨g, 0, none⟩) l.length c, .pointer (some ⟨g, 0 * 2, none⟩), ev e0, ev (x, (turn : Int)), .bool b1, undef, undef, undef, undef, undef, undef, undef, undef, undef, undef, undef, undef, undef, undef, undef], defers := [] } V := by
        intro V hV
        refine hK6 _ _ ?_
        clear hK6 hS6
        have HV := Lib.hid hV
        clear hV
        cases b1 with
        | false =>
          go_wp2_with fail
          have P7 : BestAt B H k F caps (bOffer bt k l (x, (turn : Int))) (turn + 1) V := by
            rw [show bOffer bt k l (x, (turn : Int)) = l from by rw [HBO.out, HB1.out]; rfl]
            exact ⟨_, by rw [show ((turn + 1 : Nat) : Int) = (turn : Int) + 1 from by omega]; exact HV.out.2.1, HV.out.1⟩
          exact bodyPost_end (v := .tuple #[]) (by kernel_rfl) (by kernel_rfl) ⟨rfl, P7, HV.out.2.2.2.1, HV.out.2.2.2.2.1⟩
        | true =>
          go_wp2_with fail
          rename_i K7 hK7
          have RV : ERow V.drew B g c l := HV.out.1
          have hVH : V.drew.heap[H]? = _ := HV.out.2.1
          have hVN : V.drew.heap[n0]? = _ := HV.out.2.2.1
          have hst := RV.set 0 (x, (turn : Int)) hl0
          have hBV : B ≤ V.drew.heap.size := by have := (Array.getElem?_eq_some_iff.1 hVH).1; omega
          have hBw : Below B w V.drew := ⟨HV.out.2.2.2.1.os, HV.out.2.2.2.1.tape, HV.out.2.2.2.1.output, HV.out.2.2.2.1.size, HV.out.2.2.2.1.block⟩
          have b6 := hBw.grown hst.2 hBV (fun k hk => by injection hk with hk; omega)
          have a6 : Apart H w (setE V.drew g 0 (x, (turn : Int))) := Apart.trans (b := V) HV.out.2.2.2.2.1 (Apart.grown (w := V.drew) RV hst.2)
          have hH6 := (hst.2.block H (Array.getElem?_eq_some_iff.1 hVH).1 (fun e => by injection e with e; exact hgH e.symm)).trans hVH
          have hN6 := (hst.2.block n0 (Array.getElem?_eq_some_iff.1 hVN).1 (fun e => by injection e with e; exact hgN e.symm)).trans hVN
          have KF7 : K7 { tmps := #[.pointer (some ⟨H, 0, none⟩), .int .i64 x, undef, undef, .pointer (some ⟨n0, 0, none⟩), .pointer (some ⟨H, 0, none⟩), .bool false, .bool false, .pointer (some ⟨H, 0, none⟩), .pointer (some ⟨H, 0, none⟩), .pointer (some ⟨H, 1, none⟩), .func (.func F) #[] caps, .bool false, .bool false, .bool false, .pointer (some ⟨H, 0, none⟩), .pointer (some ⟨H, 0, none⟩), .pointer (some ⟨H, 0, none⟩), .int .i64 k, .bool false, .bool false, .int .i64 x, .pointer (some ⟨H, 0, none⟩), .pointer (some ⟨H, 0, none⟩), .pointer (some ⟨H, 3, none⟩), .int .i64 (turn : Int), ev (x, (turn : Int)), .pointer (some ⟨H, 0, none⟩), .pointer (some ⟨H, 0, none⟩), .pointer (some ⟨H, 3, none⟩), .int .i64 (turn : Int), .int .i64 ((turn : Int) + 1), .pointer (some ⟨H, 0, none⟩), .pointer (some ⟨H, 3, none⟩), .pointer (some ⟨H, 0, none⟩), .pointer (some ⟨H, 0, none⟩), .pointer (some ⟨H, 2, none⟩), .slice (some ⟨g, 0, none⟩) l.length c, .int .i64 (l.length : Int), .pointer (some ⟨H, 0, none⟩), .pointer (some ⟨H, 0, none⟩), .pointer (some ⟨H, 0, none⟩), .int .i64 k, .bool false, undef, undef, undef, undef, undef, undef, undef, undef, undef, undef, undef, undef, undef, undef, undef, undef, undef, undef, undef, .pointer (some ⟨H, 0, none⟩), .pointer (some ⟨H, 0, none⟩), .pointer (some ⟨H, 1, none⟩), .func (.func F) #[] caps, .pointer (some ⟨H, 0, none⟩), .pointer (some ⟨H, 0, none⟩), .pointer (some ⟨H, 2, none⟩), .slice (some ⟨g, 0, none⟩) l.length c, .pointer (some ⟨g, 0 * 2, none⟩), ev e0, ev (x, (turn : Int)), .bool true, .pointer (some ⟨H, 0, none⟩), .pointer (some ⟨H, 0, none⟩), .pointer (some ⟨H, 2, none⟩), .slice (some ⟨g, 0, none⟩) l.length c, ev (x, (turn : Int)), .pointer (some ⟨g, 0 * 2, none⟩), undef, undef, undef, undef, undef, undef, undef, undef, undef], defers := [] } (setE V.drew g 0 (x, (turn : Int))) := by
            refine hK7 _ _ ?_
            clear hK7 hVH hVN hN6
            have V6h := Lib.hid hH6; have R6 := Lib.hid hst.1; have B6 := Lib.hid b6; have A6 := Lib.hid a6
            clear hH6 hst b6 a6 hBw RV HV
            generalize setE V.drew g 0 (x, (turn : Int)) = w6 at V6h R6 B6 A6 ⊢
            go_wp2_with fail
            rename_i Q3 _ _
            have V5 : w6.drew.heap[H]? = some (Obj.cells #[.int .i64 k, .func (.func F) #[] caps, .slice (some ⟨g, 0, none⟩) l.length c, .int .i64 ((turn : Int) + 1)] 77 (0, 0)) := V6h.out
            refine rg_last (by kernel_rfl) rfl (S := fun V => V.heap[H]? = some (Obj.cells #[.int .i64 k, .func (.func F) #[] caps, .slice (some ⟨g, 0, none⟩) l.length c, .int .i64 ((turn : Int) + 1)] 77 (0, 0))) ?_
            refine rgd_pure 0 (some 81) rfl rfl (.pointer (some ⟨H, 0, none⟩)) (by kernel_rfl) (by kernel_rfl) (by kernel_rfl) (fun _ _ _ _ h => h) (by kernel_rfl) (exec_is _ (.inl rfl) _ (by kernel_rfl)) V5 ?_
            refine rgd_pure 1 (some 82) rfl rfl (.pointer (some ⟨H, 0, none⟩)) (by kernel_rfl) (by kernel_rfl) (by kernel_rfl) (fun _ _ _ _ h => h) (by kernel_rfl) (fun w => by kernel_rfl) V5 ?_
            refine rgd_pure 2 (some 83) rfl rfl (.pointer (some ⟨H, 2, none⟩)) (by kernel_rfl) (by kernel_rfl) (by kernel_rfl) (fun _ _ _ _ h => h) (by kernel_rfl) (fun w => by kernel_rfl) V5 ?_
            refine rgd_load 3 (some 84) rfl rfl (by kernel_rfl) (by kernel_rfl) (by kernel_rfl) (fun _ _ _ _ h => h) (by kernel_rfl) _ _ rfl Try.underlying72 rfl ⟨H, 2, none⟩ (.slice (some ⟨g, 0, none⟩) l.length c) (by kernel_rfl) (fun V h => (cell_of_row V H 2 _ _ _ h).trans rfl) V5 ?_
            refine rgd_pure 4 (some 85) rfl rfl (.pointer (some ⟨H, 0, none⟩)) (by kernel_rfl) (by kernel_rfl) (by kernel_rfl) (fun _ _ _ _ h => h) (by kernel_rfl) (exec_is _ (.inl rfl) _ (by kernel_rfl)) V5 ?_
            refine rgd_pure 5 (some 86) rfl rfl (.pointer (some ⟨H, 0, none⟩)) (by kernel_rfl) (by kernel_rfl) (by kernel_rfl) (fun _ _ _ _ h => h) (by kernel_rfl) (fun w => by kernel_rfl) V5 ?_
            refine rgd_pure 6 (some 87) rfl rfl (.pointer (some ⟨H, 1, none⟩)) (by kernel_rfl) (by kernel_rfl) (by kernel_rfl) (fun _ _ _ _ h => h) (by kernel_rfl) (fun w => by kernel_rfl) V5 ?_
            refine rgd_load 7 (some 88) rfl rfl (by kernel_rfl) (by kernel_rfl) (by kernel_rfl) (fun _ _ _ _ h => h) (by kernel_rfl) _ _ rfl Try.underlying71 rfl ⟨H, 1, none⟩ (.func (.func F) #[] caps) (by kernel_rfl) (fun V h => (cell_of_row V H 1 _ _ _ h).trans rfl) V5 ?_
            have hBs : B ≤ w6.drew.heap.size := by have := (Array.getElem?_eq_some_iff.1 V5).1; omega
            have TS : Tell F caps bt dom (fun V => S V ∧ B ≤ V.heap.size) := ⟨fun a b V h1 h2 h3 => TT.out.tell a b V h1 h2 h3.1, TT.out.enter⟩
            have FS : Free g (fun V => S V ∧ B ≤ V.heap.size) := fun V V' h hg => ⟨LL.out _ _ h.1 ⟨hg.os, hg.tape, hg.output, hg.size, fun k hk => hg.block k (by have := h.2; omega) (fun e => by injection e with e; omega)⟩, Nat.le_trans h.2 hg.size⟩
            have hdm : ∀ e ∈ (l.set 0 (x, (turn : Int))), dom e := by
              intro e he
              rcases (show e ∈ l ∨ e = (x, (turn : Int)) from List.mem_or_eq_of_mem_set he) with he | he
              · exact DM.out e he
              · rw [he]; exact DX.out
            have hcall := sink_is B g c (l.set 0 (x, (turn : Int))) F caps bt dom _ TS FS w6.drew R6.out hdm ⟨LL.out _ _ SW.out (show Below B w w6.drew from ⟨B6.out.os, B6.out.tape, B6.out.output, B6.out.size, B6.out.block⟩), hBs⟩ (by rw [List.length_set]; omega)
            rw [List.length_set] at hcall
            refine rgd_call 8 (some 89) (by kernel_rfl) rfl rfl (by kernel_rfl) 59 #[.slice (some ⟨g, 0, none⟩) l.length c, .func (.func F) #[] caps] (by kernel_rfl) hcall ?_
            rintro e w7 ⟨rfl, r7, g7⟩
            have V7 := (g7.block H (Array.getElem?_eq_some_iff.1 V5).1 (fun e => by injection e with e; exact hgH e.symm)).trans V5
            refine ⟨_, rfl, V7, ?_⟩
            have B7 : Below B w w7 := (show Below B w w6.drew from ⟨B6.out.os, B6.out.tape, B6.out.output, B6.out.size, B6.out.block⟩).trans ⟨g7.os, g7.tape, g7.output, g7.size, fun k hk => g7.block k (by omega) (fun e => by injection e with e; omega)⟩
            have KE : Q3 .normal { tmps := #[.pointer (some ⟨H, 0, none⟩), .int .i64 x, undef, undef, .pointer (some ⟨n0, 0, none⟩), .pointer (some ⟨H, 0, none⟩), .bool false, .bool false, .pointer (some ⟨H, 0, none⟩), .pointer (some ⟨H, 0, none⟩), .pointer (some ⟨H, 1, none⟩), .func (.func F) #[] caps, .bool false, .bool false, .bool false, .pointer (some ⟨H, 0, none⟩), .pointer (some ⟨H, 0, none⟩), .pointer (some ⟨H, 0, none⟩), .int .i64 k, .bool false, .bool false, .int .i64 x, .pointer (some ⟨H, 0, none⟩), .pointer (some ⟨H, 0, none⟩), .pointer (some ⟨H, 3, none⟩), .int .i64 (turn : Int), ev (x, (turn : Int)), .pointer (some ⟨H, 0, none⟩), .pointer (some ⟨H, 0, none⟩), .pointer (some ⟨H, 3, none⟩), .int .i64 (turn : Int), .int .i64 ((turn : Int) + 1), .pointer (some ⟨H, 0, none⟩), .pointer (some ⟨H, 3, none⟩), .pointer (some ⟨H, 0, none⟩), .pointer (some ⟨H, 0, none⟩), .pointer (some ⟨H, 2, none⟩), .slice (some ⟨g, 0, none⟩) l.length c, .int .i64 (l.length : Int), .pointer (some ⟨H, 0, none⟩), .pointer (some ⟨H, 0, none⟩), .pointer (some ⟨H, 0, none⟩), .int .i64 k, .bool false, undef, undef, undef, undef, undef, undef, undef, undef, undef, undef, undef, undef, undef, undef, undef, undef, undef, undef, undef, .pointer (some ⟨H, 0, none⟩), .pointer (some ⟨H, 0, none⟩), .pointer (some ⟨H, 1, none⟩), .func (.func F) #[] caps, .pointer (some ⟨H, 0, none⟩), .pointer (some ⟨H, 0, none⟩), .pointer (some ⟨H, 2, none⟩), .slice (some ⟨g, 0, none⟩) l.length c, .pointer (some ⟨g, 0 * 2, none⟩), ev e0, ev (x, (turn : Int)), .bool true, .pointer (some ⟨H, 0, none⟩), .pointer (some ⟨H, 0, none⟩), .pointer (some ⟨H, 2, none⟩), .slice (some ⟨g, 0, none⟩) l.length c, ev (x, (turn : Int)), .pointer (some ⟨g, 0 * 2, none⟩), .pointer (some ⟨H, 0, none⟩), .pointer (some ⟨H, 0, none⟩), .pointer (some ⟨H, 2, none⟩), .slice (some ⟨g, 0, none⟩) l.length c, .pointer (some ⟨H, 0, none⟩), .pointer (some ⟨H, 0, none⟩), .pointer (some ⟨H, 1, none⟩), .func (.func F) #[] caps, .tuple #[]], defers := [] } w7 := by
              have P7 : BestAt B H k F caps (bOffer bt k l (x, (turn : Int))) (turn + 1) w7 := by
                rw [show bOffer bt k l (x, (turn : Int)) = Hp.sink bt (l.set 0 (x, (turn : Int))) from by rw [HBO.out, HB1.out]; rfl]
                refine ⟨.slice (some ⟨g, 0, none⟩) l.length c, by rw [show ((turn + 1 : Nat) : Int) = (turn : Int) + 1 from by omega]; exact V7, ?_⟩
                have h := r7
                unfold ERow at h
                rw [sink_len, List.length_set] at h ⊢
                exact h
              exact bodyPost_end (v := .tuple #[]) (by kernel_rfl) (by kernel_rfl) ⟨rfl, P7, B7, Apart.trans (b := w6) A6.out (Apart.grown (w := w6.drew) R6.out g7)⟩
            exact wpAnyH_done (by kernel_rfl) (Eq.mp (by kernel_rfl) KE) _
          refine rg_calm (by kernel_rfl) rfl (S := (fun V : World => V.heap[H]? = some (Obj.cells #[.int .i64 k, .func (.func F) #[] caps, .slice (some ⟨g, 0, none⟩) l.length c, .int .i64 ((turn : Int) + 1)] 77 (0, 0)) ∧ V.heap[n0]? = some (Obj.cells #[.int .i64 x, .int .i64 (turn : Int)] 89 (0, 0)))) ?_
          have hS7 : (fun V : World => V.heap[H]? = some (Obj.cells #[.int .i64 k, .func (.func F) #[] caps, .slice (some ⟨g, 0, none⟩) l.length c, .int .i64 ((turn : Int) + 1)] 77 (0, 0)) ∧ V.heap[n0]? = some (Obj.cells #[.int .i64 x, .int .i64 (turn : Int)] 89 (0, 0))) V.drew := ⟨hVH, hVN⟩
          refine rgd_pure 0 (some 75) rfl rfl (.pointer (some ⟨H, 0, none⟩)) (by kernel_rfl) (by kernel_rfl) (by kernel_rfl) (fun _ _ _ _ h => h) (by kernel_rfl) (exec_is _ (.inl rfl) _ (by kernel_rfl)) hS7 ?_
          refine rgd_pure 1 (some 76) rfl rfl (.pointer (some ⟨H, 0, none⟩)) (by kernel_rfl) (by kernel_rfl) (by kernel_rfl) (fun _ _ _ _ h => h) (by kernel_rfl) (fun w => by kernel_rfl) hS7 ?_
          refine rgd_pure 2 (some 77) rfl rfl (.pointer (some ⟨H, 2, none⟩)) (by kernel_rfl) (by kernel_rfl) (by kernel_rfl) (fun _ _ _ _ h => h) (by kernel_rfl) (fun w => by kernel_rfl) hS7 ?_
          refine rgd_load 3 (some 78) rfl rfl (by kernel_rfl) (by kernel_rfl) (by kernel_rfl) (fun _ _ _ _ h => h) (by kernel_rfl) _ _ rfl Try.underlying72 rfl ⟨H, 2, none⟩ (.slice (some ⟨g, 0, none⟩) l.length c) (by kernel_rfl) (fun V h => (cell_of_row V H 2 _ _ _ h.1).trans rfl) hS7 ?_
          refine rgd_pureS 4 (some 79) rfl rfl (ev (x, (turn : Int))) (by kernel_rfl) (by kernel_rfl) (by kernel_rfl) (fun _ _ _ _ h => h) (by kernel_rfl) (fun W h => exec_loadE _ rfl n0 0 (x, (turn : Int)) (by kernel_rfl) ((cell_of_row W n0 0 _ _ _ h.2).trans rfl) ((cell_of_row W n0 1 _ _ _ h.2).trans rfl)) hS7 ?_
          refine rgd_pure 5 (some 80) rfl rfl (.pointer (some ⟨g, 0 * 2, none⟩)) (by kernel_rfl) (by kernel_rfl) (by kernel_rfl) (fun _ _ _ _ h => h) (by kernel_rfl) (exec_idxE _ _ rfl g l.length c 0 (by kernel_rfl) (by kernel_rfl) (by omega)) hS7 ?_
          refine rgd_do 6 none (by kernel_rfl) rfl rfl (by kernel_rfl) (setE V.drew g 0 (x, (turn : Int))) (exec_storeE _ _ rfl g 0 _ (by kernel_rfl) (by kernel_rfl) RV (by omega)) ⟨hH6, hN6⟩ ?_
          exact wpAnyH_done (by kernel_rfl) (Eq.mp (by kernel_rfl) KF7) _
      refine rg_calm (by kernel_rfl) rfl (S := (fun V : World => ERow V B g c l ∧ V.heap[H]? = some (Obj.cells #[.int .i64 k, .func (.func F) #[] caps, .slice (some ⟨g, 0, none⟩) l.length c, .int .i64 ((turn : Int) + 1)] 77 (0, 0)) ∧ V.heap[n0]? = some (Obj.cells #[.int .i64 x, .int .i64 (turn : Int)] 89 (0, 0)) ∧ Below B w V ∧ Apart H w V ∧ S V)) ?_
      refine rgd_pure 0 (some 63) rfl rfl (.pointer (some ⟨H, 0, none⟩)) (by kernel_rfl) (by kernel_rfl) (by kernel_rfl) (fun _ _ _ _ h => h) (by kernel_rfl) (exec_is _ (.inl rfl) _ (by kernel_rfl)) hS6 ?_
      refine rgd_pure 1 (some 64) rfl rfl (.pointer (some ⟨H, 0, none⟩)) (by kernel_rfl) (by kernel_rfl) (by kernel_rfl) (fun _ _ _ _ h => h) (by kernel_rfl) (fun w => by kernel_rfl) hS6 ?_
      refine rgd_pure 2 (some 65) rfl rfl (.pointer (some ⟨H, 1, none⟩)) (by kernel_rfl) (by kernel_rfl) (by kernel_rfl) (fun _ _ _ _ h => h) (by kernel_rfl) (fun w => by kernel_rfl) hS6 ?_
      refine rgd_load 3 (some 66) rfl rfl (by kernel_rfl) (by kernel_rfl) (by kernel_rfl) (fun _ _ _ _ h => h) (by kernel_rfl) _ _ rfl Try.underlying71 rfl ⟨H, 1, none⟩ (.func (.func F) #[] caps) (by kernel_rfl) (fun V h => (cell_of_row V H 1 _ _ _ h.2.1).trans rfl) hS6 ?_
      refine rgd_pure 4 (some 67) rfl rfl (.pointer (some ⟨H, 0, none⟩)) (by kernel_rfl) (by kernel_rfl) (by kernel_rfl) (fun _ _ _ _ h => h) (by kernel_rfl) (exec_is _ (.inl rfl) _ (by kernel_rfl)) hS6 ?_
      refine rgd_pure 5 (some 68) rfl rfl (.pointer (some ⟨H, 0, none⟩)) (by kernel_rfl) (by kernel_rfl) (by kernel_rfl) (fun _ _ _ _ h => h) (by kernel_rfl) (fun w => by kernel_rfl) hS6 ?_
      refine rgd_pure 6 (some 69) rfl rfl (.pointer (some ⟨H, 2, none⟩)) (by kernel_rfl) (by kernel_rfl) (by kernel_rfl) (fun _ _ _ _ h => h) (by kernel_rfl) (fun w => by kernel_rfl) hS6 ?_
      refine rgd_load 7 (some 70) rfl rfl (by kernel_rfl) (by kernel_rfl) (by kernel_rfl) (fun _ _ _ _ h => h) (by kernel_rfl) _ _ rfl Try.underlying72 rfl ⟨H, 2, none⟩ (.slice (some ⟨g, 0, none⟩) l.length c) (by kernel_rfl) (fun V h => (cell_of_row V H 2 _ _ _ h.2.1).trans rfl) hS6 ?_
      refine rgd_pure 8 (some 71) rfl rfl (.pointer (some ⟨g, 0 * 2, none⟩)) (by kernel_rfl) (by kernel_rfl) (by kernel_rfl) (fun _ _ _ _ h => h) (by kernel_rfl) (exec_idxE _ _ rfl g l.length c 0 (by kernel_rfl) (by kernel_rfl) (by omega)) hS6 ?_
      refine rgd_pureS 9 (some 72) rfl rfl (ev e0) (by kernel_rfl) (by kernel_rfl) (by kernel_rfl) (fun _ _ _ _ h => h) (by kernel_rfl) (fun V h => exec_loadE _ rfl g 0 _ (by kernel_rfl) (HC0.out V h.1).1 (HC0.out V h.1).2) hS6 ?_
      refine rgd_pureS 10 (some 73) rfl rfl (ev (x, (turn : Int))) (by kernel_rfl) (by kernel_rfl) (by kernel_rfl) (fun _ _ _ _ h => h) (by kernel_rfl) (fun W h => exec_loadE _ rfl n0 0 (x, (turn : Int)) (by kernel_rfl) ((cell_of_row W n0 0 _ _ _ h.2.2.1).trans rfl) ((cell_of_row W n0 1 _ _ _ h.2.2.1).trans rfl)) hS6 ?_
      refine rgd_call 11 (some 74) (by kernel_rfl) rfl rfl (by kernel_rfl) F (#[ev e0, ev (x, (turn : Int))] ++ caps) (exec_tell _ _ _ rfl F caps (by kernel_rfl) _ (by kernel_rfl) (TT.out.enter _ _)) (TT.out.tell _ _ _ HDE.out DX.out hS6.2.2.2.2.2) ?_
      rintro e w5 ⟨rfl, hb5⟩
      have hS5 : (fun V : World => ERow V B g c l ∧ V.heap[H]? = some (Obj.cells #[.int .i64 k, .func (.func F) #[] caps, .slice (some ⟨g, 0, none⟩) l.length c, .int .i64 ((turn : Int) + 1)] 77 (0, 0)) ∧ V.heap[n0]? = some (Obj.cells #[.int .i64 x, .int .i64 (turn : Int)] 89 (0, 0)) ∧ Below B w V ∧ Apart H w V ∧ S V) w5 := ⟨hS6.1.kept hb5, (hb5.block H (Array.getElem?_eq_some_iff.1 hS6.2.1).1).trans hS6.2.1, (hb5.block n0 (Array.getElem?_eq_some_iff.1 hS6.2.2.1).1).trans hS6.2.2.1, thenBelowB hS6.2.2.2.1 hb5 hB6, hS6.2.2.2.2.1.trans (fun k cs t m hk _ _ => (hb5.block k (Array.getElem?_eq_some_iff.1 hk).1).trans hk), LL.out _ _ hS6.2.2.2.2.2 (hb5.mono hB6)⟩
      refine ⟨_, rfl, hS5, ?_⟩
      rw [HB1.out]
      exact wpAnyH_done (by kernel_rfl) (Eq.mp (by kernel_rfl) (KK6 _ hS5)) _
  refine rg_calm (by kernel_rfl) rfl (S := fun V => V.heap[H]? = some (Obj.cells #[.int .i64 k, .func (.func F) #[] caps, .slice q l.length c, .int .i64 ((turn : Int) + 1)] 77 (0, 0))) ?_
  refine rgd_pure 0 (some 34) rfl rfl (.pointer (some ⟨H, 0, none⟩)) (by kernel_rfl) (by kernel_rfl) (by kernel_rfl) (fun _ _ _ _ h => h) (by kernel_rfl) (exec_is _ (.inl rfl) _ (by kernel_rfl)) hS ?_
  refine rgd_pure 1 (some 35) rfl rfl (.pointer (some ⟨H, 0, none⟩)) (by kernel_rfl) (by kernel_rfl) (by kernel_rfl) (fun _ _ _ _ h => h) (by kernel_rfl) (fun w => by kernel_rfl) hS ?_
  refine rgd_pure 2 (some 36) rfl rfl (.pointer (some ⟨H, 2, none⟩)) (by kernel_rfl) (by kernel_rfl) (by kernel_rfl) (fun _ _ _ _ h => h) (by kernel_rfl) (fun w => by kernel_rfl) hS ?_
  refine rgd_load 3 (some 37) rfl rfl (by kernel_rfl) (by kernel_rfl) (by kernel_rfl) (fun _ _ _ _ h => h) (by kernel_rfl) _ _ rfl Try.underlying72 rfl ⟨H, 2, none⟩ (.slice q l.length c) (by kernel_rfl) (fun V h => (cell_of_row V H 2 _ _ _ h).trans rfl) hS ?_
  refine rgd_pure 4 (some 38) rfl rfl (.int .i64 (l.length : Int)) (by kernel_rfl) (by kernel_rfl) (by kernel_rfl) (fun _ _ _ _ h => h) (by kernel_rfl) (fun w => by kernel_rfl) hS ?_
  refine rgd_pure 5 (some 39) rfl rfl (.pointer (some ⟨H, 0, none⟩)) (by kernel_rfl) (by kernel_rfl) (by kernel_rfl) (fun _ _ _ _ h => h) (by kernel_rfl) (exec_is _ (.inl rfl) _ (by kernel_rfl)) hS ?_
  refine rgd_pure 6 (some 40) rfl rfl (.pointer (some ⟨H, 0, none⟩)) (by kernel_rfl) (by kernel_rfl) (by kernel_rfl) (fun _ _ _ _ h => h) (by kernel_rfl) (fun w => by kernel_rfl) hS ?_
  refine rgd_pure 7 (some 41) rfl rfl (.pointer (some ⟨H, 0, none⟩)) (by kernel_rfl) (by kernel_rfl) (by kernel_rfl) (fun _ _ _ _ h => h) (by kernel_rfl) (fun w => by kernel_rfl) hS ?_
  refine rgd_load 8 (some 42) rfl rfl (by kernel_rfl) (by kernel_rfl) (by kernel_rfl) (fun _ _ _ _ h => h) (by kernel_rfl) _ _ rfl Try.underlying3 rfl ⟨H, 0, none⟩ (.int .i64 k) (by kernel_rfl) (fun V h => (cell_of_row V H 0 _ _ _ h).trans rfl) hS ?_
  refine rgd_pure 9 (some 43) rfl rfl (.bool b0) (by kernel_rfl) (by kernel_rfl) (by kernel_rfl) (fun _ _ _ _ h => h) (by kernel_rfl) (exec_lss _ _ _ _ rfl (l.length : Int) k b0 HB0.out (by kernel_rfl) (by kernel_rfl)) hS ?_
  exact wpAnyH_done (by kernel_rfl) (Eq.mp (by kernel_rfl) KK3) _
end Go.Proofs.Ytlajceamjodcjaa
