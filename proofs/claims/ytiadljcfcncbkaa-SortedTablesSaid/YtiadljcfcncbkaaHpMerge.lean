/- sorted's Merge. -/
import Derived.Test.YtiadljcfcncbkaaHpRun
namespace Go.Proofs.Ytiadljcfcncbkaa
open Go Go.RowKit Hp
set_option linter.unusedVariables false

theorem own_apart {w w' : World} {B H n : Nat} {v : Value} {xs : List Value} (h : w.ownsRow B 3 1 v n xs) (ha : Apart H w w') {F : FuncId} {caps : Array Value} {l : List E} {turn : Nat} {B2 : Nat} (hH : HeapAt B2 H F caps l turn w) : w'.ownsRow B 3 1 v n xs := by
  obtain ⟨u, hu, _⟩ := hH
  refine ⟨h.1, ?_⟩
  rcases h.2 with q | ⟨g, cap, cur, q1, q2, q3, q4⟩
  · exact .inl q
  · exact .inr ⟨g, cap, cur, q1, q2, ha g _ _ _ q3 (by decide) (fun e => by subst e; rw [hu] at q3; cases q3), q4⟩
theorem heap_same {w w' : World} {B H : Nat} {F : FuncId} {caps : Array Value} {l : List E} {turn : Nat} (h : HeapAt B H F caps l turn w) (hk : ∀ (k : Nat) (cs : Array Value) (t : TypeId) (m : Nat × Nat), w.heap[k]? = some (Obj.cells cs t m) → t ≠ 3 → w'.heap[k]? = some (Obj.cells cs t m)) : HeapAt B H F caps l turn w' := by
  obtain ⟨v, h1, h2⟩ := h
  refine ⟨v, hk _ _ _ _ h1 (by decide), h2.1, ?_⟩
  rcases h2.2 with q | ⟨g, cap, cur, q1, q2, q3, q4⟩
  · exact .inl q
  · exact .inr ⟨g, cap, cur, q1, q2, hk _ _ _ _ q3 (by decide), q4⟩
def slLen : Value → Nat
  | .slice _ n _ => n
  | _ => 0
theorem slLen_own {w : World} {B : Nat} {e : TypeId} {v : Value} {n : Nat} {xs : List Value} (h : w.ownsRow B e 1 v n xs) : slLen v = n := by
  rcases h.2 with ⟨rfl, h0⟩ | ⟨g, cap, cur, rfl, _⟩
  · exact h0.symm
  · rfl
def icells (l : List Int) : List Value := l.map fun x => .int .i64 x
set_option maxRecDepth 100000 in
theorem run_appI (w : World) (ty : TypeId) (B : Nat) (l : List Int) (v : Value) (hown : w.ownsRow B 3 1 v l.length (icells l)) (x : Int) (hlen : l.length ≤ 1000000) (hB : B ≤ w.heap.size) :
    ∃ v' w', (Builtin.append_ #[24, 24] ty #[v, .slice (some ⟨w.heap.size, 0, none⟩) 1 1]).run Try.prog (w.alloc (.cells #[.int .i64 x] 3)) = .ok v' w' ∧ w'.ownsRow B 3 1 v' (l ++ [x]).length (icells (l ++ [x])) ∧ Below B w w' ∧ (∀ k, k < w.heap.size → some k ≠ v.ownBlock → w'.heap[k]? = w.heap[k]?) := by
  have hi : ∃ i, Try.prog.info? 3 = some i ∧ i.zero = some (.int .i64 0) ∧ i.bytes = 8 ∧ i.size = 1 := ⟨_, rfl, rfl, rfl, rfl⟩
  obtain ⟨i0, hi, hz0, hz1, hz2⟩ := hi
  have hc := heap_alloc_new w (.cells #[.int .i64 x] 3)
  obtain ⟨v', w', hrun, r1, r2, _⟩ := run_append_own (P := Try.prog) (w.alloc (.cells #[.int .i64 x] 3)) B 24 ty 3 i0 (.int .i64 0) 1 8 Try.underlying24 hi hz0 hz2 hz1 rfl (by decide) v l.length (icells l) (hown.alloc _) ⟨w.heap.size, 0, none⟩ 1 1 [.int .i64 x] rfl (fun j u hu => by
    match j with
    | 0 => cases hu; exact (cell_of_row _ _ 0 _ _ _ hc).trans rfl) (by simp [Value.oneCell']) (by unfold maxLen; omega) (by omega) (by simp; omega)
  have he : icells l ++ [.int .i64 x] = icells (l ++ [x]) := by simp [icells]
  rw [he] at r1
  exact ⟨v', w', hrun, by rw [List.length_append, List.length_singleton]; exact r1, ((Below.refl B w).alloc hB _).grown r2 (by simp; omega) (fun k hk => (hown.lt k hk).1), fun k hk hne => (r2.block k (by simp; omega) hne).trans (Below.heap_alloc w _ k hk)⟩
set_option maxHeartbeats 4000000 in
set_option maxRecDepth 100000 in
theorem merge_is (bl ol cl : Nat) (LL : List (List Int)) (L : FuncId) (caps : Array Value) (lt : Int → Int → Bool) (domL : Int → Prop) (S : World → Prop) (T : TellI L caps lt domL S) (w : World) (hS : Low w.heap.size S) (hs : S w) (hl : LLies w bl ol LL) (hn : LL.length ≤ 1000) (hsum : (LL.map (·.length)).sum ≤ 10000) (hdl : ∀ l ∈ LL, ∀ x ∈ l, domL x) :
    Calls Try.prog 41 #[.func (.func L) #[] caps, .slice (some ⟨bl, ol, none⟩) LL.length cl] w fun e w' => ∃ v, e = .returned v ∧ (∃ j : Nat, (∀ j' : Nat, j' < j → (MS.run lt LL j').l ≠ []) ∧ (MS.run lt LL j).l = [] ∧ w'.ownsRow (w.heap.size + 5) 3 1 v (MS.run lt LL j).out.length (icells (MS.run lt LL j).out)) ∧ Below w.heap.size w w' := by
  have HDL := Lib.hid hdl; have HL := Lib.hid hl; have TT := Lib.hid T; have HS := Lib.hid hS; have SW := Lib.hid hs
  have hne : ∀ w : World, (binOp .eql 49 (.func (.func L) #[] caps) .nilFunc).run Try.prog w = .ok (.bool false) w := fun w => by kernel_rfl
  obtain ⟨M, hM⟩ : ∃ M, M = madeCells #[.int .i64 0] LL.length := ⟨_, rfl⟩
  have hmk : ∀ W : World, (Instr.makeSlice 24 (.int .i64 (LL.length : Int)) (.int .i64 (LL.length : Int))).run Try.prog W = .ok (.slice (some ⟨W.heap.size, 0, none⟩) LL.length LL.length) (W.alloc (.cells M 3)) := fun W => by
    have hi : ∃ i, Try.prog.info? 3 = some i ∧ i.zero = some (.int .i64 0) ∧ i.bytes = 8 ∧ i.size = 1 := ⟨_, rfl, rfl, rfl, rfl⟩
    obtain ⟨i, h1, h2, h3, h4⟩ := hi
    have hr := run_make (P := Try.prog) W 24 3 i (.int .i64 0) Try.underlying24 h1 h2 .i64 .i64 LL.length LL.length (by omega) (Int.le_refl _) (by rw [h3]; omega) (by omega)
    simp only [Int.toNat_natCast, h4, Nat.mul_one] at hr
    rw [hM]
    exact hr
  have hMn := Lib.hid hM
  clear hl T hS hs hM hdl
  have h3 := heap_alloc_new w (.cells #[.func (.func L) #[] caps] 49)
  have c0 := cell_alloc (.cells #[.slice (some ⟨bl, ol, none⟩) LL.length cl] 66) ((cell_of_row _ w.heap.size 0 _ _ _ h3).trans (show _ = some (.func (.func L) #[] caps) from rfl))
  have h4 := heap_alloc_new (w.alloc (.cells #[.func (.func L) #[] caps] 49)) (.cells #[.slice (some ⟨bl, ol, none⟩) LL.length cl] 66)
  rw [World.size_alloc] at h4
  have c1 := (cell_of_row _ (w.heap.size + 1) 0 _ _ _ h4).trans (show _ = some (.slice (some ⟨bl, ol, none⟩) LL.length cl) from rfl)
  clear h3 h4
  go_enter Try.func41, Try.ntmps41
  go_wp2_with fail
  simp only [Nat.add_assoc, Nat.reduceAdd]
  have g0 := heap_alloc_new w (.cells #[.func (.func L) #[] caps] 49)
  have g1 := heap_alloc_new (w.alloc (.cells #[.func (.func L) #[] caps] 49)) (.cells #[.slice (some ⟨bl, ol, none⟩) LL.length cl] 66)
  have g2 := heap_alloc_new ((w.alloc (.cells #[.func (.func L) #[] caps] 49)).alloc (.cells #[.slice (some ⟨bl, ol, none⟩) LL.length cl] 66)) (.cells M 3)
  have g3 := heap_alloc_new (((w.alloc (.cells #[.func (.func L) #[] caps] 49)).alloc (.cells #[.slice (some ⟨bl, ol, none⟩) LL.length cl] 66)).alloc (.cells M 3)) (.cells #[.slice (some ⟨w.heap.size + 2, 0, none⟩) LL.length LL.length] 24)
  simp only [World.size_alloc, Nat.add_assoc, Nat.reduceAdd] at g1 g2 g3
  have up : ∀ (W : World) (o : Obj) (k : Nat) (x : Obj), W.heap[k]? = some x → (W.alloc o).heap[k]? = some x := fun W o k x h => (Below.heap_alloc W o k (Array.getElem?_eq_some_iff.1 h).1).trans h
  have G0 := up _ (.cells #[.slice (some ⟨w.heap.size + 2, 0, none⟩) LL.length LL.length] 24) _ _ (up _ (.cells M 3) _ _ (up _ (.cells #[.slice (some ⟨bl, ol, none⟩) LL.length cl] 66) _ _ g0))
  have G1 := up _ (.cells #[.slice (some ⟨w.heap.size + 2, 0, none⟩) LL.length LL.length] 24) _ _ (up _ (.cells M 3) _ _ g1)
  have G2 := up _ (.cells #[.slice (some ⟨w.heap.size + 2, 0, none⟩) LL.length LL.length] 24) _ _ g2
  have hb4 : Below w.heap.size w ((((w.alloc (.cells #[.func (.func L) #[] caps] 49)).alloc (.cells #[.slice (some ⟨bl, ol, none⟩) LL.length cl] 66)).alloc (.cells M 3)).alloc (.cells #[.slice (some ⟨w.heap.size + 2, 0, none⟩) LL.length LL.length] 24)) := ((((Below.refl _ w).alloc (Nat.le_refl _) _).alloc (by simp) _).alloc (by simp; omega) _).alloc (by simp; omega) _
  have hz4 : ((((w.alloc (.cells #[.func (.func L) #[] caps] 49)).alloc (.cells #[.slice (some ⟨bl, ol, none⟩) LL.length cl] 66)).alloc (.cells M 3)).alloc (.cells #[.slice (some ⟨w.heap.size + 2, 0, none⟩) LL.length LL.length] 24)).heap.size = w.heap.size + 4 := by simp
  clear g0 g1 g2 up c0 c1 hmk
  generalize (((w.alloc (.cells #[.func (.func L) #[] caps] 49)).alloc (.cells #[.slice (some ⟨bl, ol, none⟩) LL.length cl] 66)).alloc (.cells M 3)).alloc (.cells #[.slice (some ⟨w.heap.size + 2, 0, none⟩) LL.length LL.length] 24) = W4 at G0 G1 G2 g3 hb4 hz4 ⊢
  refine (newHeap_is 60 #[.pointer (some ⟨w.heap.size + 1, 0, none⟩), .pointer (some ⟨w.heap.size + 3, 0, none⟩), .pointer (some ⟨w.heap.size, 0, none⟩)] W4).mono ?_
  rintro e W5 ⟨rfl, hbx, hh5, hb5, hz5⟩
  rw [hz4] at hbx hh5 hb5 hz5
  simp only [Nat.add_assoc, Nat.reduceAdd] at hbx hh5 hz5
  have ML : MLaid w bl ol cl LL L caps (List.replicate LL.length 0) W5 := by
    refine ⟨(hb5.block _ (by omega)).trans G0, (hb5.block _ (by omega)).trans G1, ⟨M, (hb5.block _ (by omega)).trans G2, fun i hi => ?_⟩, (hb5.block _ (by omega)).trans g3, hbx, hb4.trans (hb5.mono (by omega))⟩
    rw [hMn.out]
    simp only [List.getD, List.getElem?_replicate]
    rw [if_pos hi]
    simp [madeCells, hi, Nat.mod_one]
  have ML5 := Lib.hid ML; have HH5 := Lib.hid hh5
  clear ML hh5 hbx G0 G1 G2 g3 hb4 hb5 hMn
  rw [hz4]
  simp only [Nat.add_assoc, Nat.reduceAdd]
  have c1 := (cell_of_row W5 (w.heap.size + 1) 0 _ _ _ ML5.out.lists).trans (show _ = some (.slice (some ⟨bl, ol, none⟩) LL.length cl) from rfl)
  have TM := Lib.hid (merge_tell bl ol cl LL L caps lt domL S TT.out w HS.out SW.out HL.out HDL.out (List.replicate LL.length 0) W5 ML5.out)
  have SI := Lib.hid (start_inv lt LL)
  have ST := Lib.hid (fun k h => SM_succ LL k h); have SU := Lib.hid (fun k => SM_le LL k)
  go_wp2_with fail
  go_loopw [7, 22] (fun a i wr => ∃ k : Nat, i = .int .i64 k ∧ a = .int .i64 (SM LL k : Nat) ∧ k ≤ LL.length ∧ HeapAt (w.heap.size + 5) (w.heap.size + 5) 69 #[.pointer (some ⟨w.heap.size + 4, 0, none⟩)] (MS.start lt LL k).l (MS.start lt LL k).turn wr ∧ Below (w.heap.size + 5) W5 wr) (fun _ i _ => LL.length - (intOf i).toNat)
  case atStart => exact ⟨0, rfl, rfl, Nat.zero_le _, HH5.out, Below.refl _ _⟩
  case round =>
    obtain ⟨k, rfl, rfl, hk, hhk, hbk⟩ := hrel
    have HK := Lib.hid hhk; have BK := Lib.hid hbk
    have MK := Lib.hid (ML5.out.below hbk)
    clear hhk hbk c1
    by_cases hlt : k < LL.length
    · have h6 : (k : Int) < LL.length := by omega
      have hs1 := SU.out (k + 1)
      have hs2 := ST.out k hlt
      obtain ⟨q, c, hc, _⟩ := (HL.out.below MK.out.bel) k hlt
      have I := SI.out k hk
      have hst : MS.start lt LL (k + 1) = if 0 < (LL.getD k []).length then (MS.start lt LL k).push lt LL k else MS.start lt LL k := rfl
      have hla : (MS.start lt LL k).at_ = List.replicate LL.length 0 := I.at_
      have hLD : ∀ e ∈ (MS.start lt LL k).l, domM LL (List.replicate LL.length 0) e.1 := fun e he => by rw [← hla]; exact (I.dom e he).1
      have htl := I.turn
      have hll := I.len
      have ZT := Lib.hid hst; have ZA := Lib.hid hla; have ZD := Lib.hid hLD
      have hs3 : SM LL (k + 1) = SM LL k + (LL.getD k []).length := hs2
      clear hst hla hLD I hs2
      obtain ⟨m, hm⟩ : ∃ m, m = (LL.getD k []).length := ⟨_, rfl⟩
      rw [← hm] at hc hs3 ZT
      have HM := Lib.hid hm
      have hsk : SM LL k + m ≤ 10000 := by omega
      have SK := Lib.hid hs3
      clear hm hs1 hs3
      by_cases h0 : 0 < m
      · have h0' : (m : Int) > 0 := by omega
        have hdx : domM LL (List.replicate LL.length 0) (k : Int) := ⟨k, rfl, hlt, by
          simp only [List.getD, List.getElem?_replicate]
          rw [if_pos hlt]
          have := HM.out
          simp only [List.getD] at this
          simp only [Option.getD_some]
          omega⟩
        have PU := Lib.hid (push_is (w.heap.size + 5) (w.heap.size + 5) _ _ _ _ _ TM.out (fun V V' h hb => h.trans hb) (MS.start lt LL k).l (MS.start lt LL k).turn (k : Int) wr HK.out (Nat.le_refl _) ZD.out hdx BK.out (by omega) (by omega))
        clear hdx
        go_wp2_with fail
        refine PU.out.mono ?_
        rintro e w6 ⟨rfl, hh6, hb6, _⟩
        have H6 := Lib.hid hh6; have B6 := Lib.hid (BK.out.trans hb6)
        clear hh6 hb6 PU
        go_wp2
        go_roundw
        case rel =>
          refine ⟨k + 1, by go_num, by rw [SK.out]; go_num, by omega, ?_, B6.out⟩
          rw [ZT.out, if_pos h0]
          have := H6.out
          unfold MS.push
          rw [ZA.out]
          exact this
        case measure => simp [intOf]; omega
      · have h0' : ¬ (m : Int) > 0 := by omega
        go_wp2
        go_roundw
        case rel =>
          refine ⟨k + 1, by go_num, by rw [SK.out]; go_num, by omega, ?_, BK.out⟩
          rw [ZT.out, if_neg h0]
          exact HK.out
        case measure => simp [intOf]; omega
    · have h6 : ¬ (k : Int) < LL.length := by omega
      obtain rfl : k = LL.length := by omega
      have hsa := SU.out LL.length
      obtain ⟨N, hN⟩ : ∃ N, N = SM LL LL.length := ⟨_, rfl⟩
      rw [← hN] at hsa ⊢
      have hN1 : N ≤ 10000 := by omega
      obtain ⟨M2, hM2⟩ : ∃ M2, M2 = madeCells #[.int .i64 0] N := ⟨_, rfl⟩
      have hmk : ∀ W : World, (Instr.makeSlice 24 (.int .i64 0) (.int .i64 (N : Int))).run Try.prog W = .ok (.slice (some ⟨W.heap.size, 0, none⟩) 0 N) (W.alloc (.cells M2 3)) := fun W => by
        have hi : ∃ i, Try.prog.info? 3 = some i ∧ i.zero = some (.int .i64 0) ∧ i.bytes = 8 ∧ i.size = 1 := ⟨_, rfl, rfl, rfl, rfl⟩
        obtain ⟨i, h1, h2, h3, h4⟩ := hi
        have hr := run_make (P := Try.prog) W 24 3 i (.int .i64 0) Try.underlying24 h1 h2 .i64 .i64 0 N (by omega) (by omega) (by rw [h3]; omega) (by omega)
        simp only [Int.toNat_natCast, h4, Nat.mul_one] at hr
        rw [hM2]
        exact hr
      have hown : (wr.alloc (.cells M2 3)).ownsRow (w.heap.size + 5) 3 1 (.slice (some ⟨wr.heap.size, 0, none⟩) 0 N) 0 [] := by
        refine ⟨rfl, .inr ⟨wr.heap.size, N, M2, rfl, ?_, heap_alloc_new wr _, Nat.zero_le _, by unfold maxLen; omega, by rw [hM2, size_madeCells]; omega, by simp⟩⟩
        have := BK.out.size
        omega
      have b6 : Below (w.heap.size + 5) W5 (wr.alloc (.cells M2 3)) := BK.out.alloc (by have := BK.out.size; omega) _
      have hk6 : HeapAt (w.heap.size + 5) (w.heap.size + 5) 69 #[.pointer (some ⟨w.heap.size + 4, 0, none⟩)] (MS.start lt LL LL.length).l (MS.start lt LL LL.length).turn (wr.alloc (.cells M2 3)) := by
        obtain ⟨v, h1, h2⟩ := HK.out
        exact ⟨v, (Below.heap_alloc wr _ _ (Array.getElem?_eq_some_iff.1 h1).1).trans h1, h2.alloc _⟩
      have I := SI.out LL.length hk
      have hll := I.len
      have PO := Lib.hid (pop_any (w.heap.size + 5) (w.heap.size + 5) _ _ _ _ _ TM.out (fun V V' h hb => h.trans hb) _ _ (wr.alloc (.cells M2 3)) hk6 (Nat.le_refl _) (fun e he => by have := (I.dom e he).1; rw [I.at_] at this; exact this) b6 (by omega))
      have OW := Lib.hid hown; have B6 := Lib.hid b6
      have HK6 := Lib.hid hk6
      clear hown b6 hk6 I hM2 hN
      go_wp2_with fail
      refine PO.out.mono ?_
      rintro e w7 ⟨rfl, hh7, hb7, ha7⟩
      have I := SI.out LL.length hk
      have ia : (MS.start lt LL LL.length).at_ = List.replicate LL.length 0 := I.at_
      have ML7 := Lib.hid (ML5.out.below (B6.out.trans hb7))
      have OW7 : w7.ownsRow (w.heap.size + 5) 3 1 (.slice (some ⟨wr.heap.size, 0, none⟩) 0 N) 0 [] := own_apart OW.out ha7 HK6.out
      rw [← ia] at ML7 hh7
      have HH7 := Lib.hid hh7; have O7 := Lib.hid OW7
      have R0 := Lib.hid (SInv.run LL I (start_out lt LL LL.length))
      have Z0 := Lib.hid (start_out lt LL LL.length)
      clear hh7 hb7 OW7 I ia PO OW B6 ha7 HK6
      go_wp2_with fail
      go_loopw [10, 11, 12] (fun o i ok wr => ∃ (j : Nat) (v : Value), o = v ∧ i = .int .i64 ((MS.run lt LL j).l.getD 0 d).1 ∧ ok = .bool (decide (0 < (MS.run lt LL j).l.length)) ∧ RInv LL (MS.run lt LL j) ∧ (∀ j' : Nat, j' < j → (MS.run lt LL j').l ≠ []) ∧ (MS.run lt LL j).out.length = j ∧ wr.ownsRow (w.heap.size + 5) 3 1 v (MS.run lt LL j).out.length (icells (MS.run lt LL j).out) ∧ MLaid w bl ol cl LL L caps (MS.run lt LL j).at_ wr ∧ HeapAt (w.heap.size + 5) (w.heap.size + 5) 69 #[.pointer (some ⟨w.heap.size + 4, 0, none⟩)] (Hp.left (mlt lt LL (MS.run lt LL j).at_) (MS.run lt LL j).l) (MS.run lt LL j).turn wr) (fun o _ _ _ => 10001 - slLen o)
      case atStart => exact ⟨0, _, rfl, rfl, rfl, R0.out, fun j' h => absurd h (by omega), by show (MS.start lt LL LL.length).out.length = 0; rw [Z0.out]; rfl, by show w7.ownsRow _ _ 1 _ (MS.start lt LL LL.length).out.length (icells (MS.start lt LL LL.length).out); rw [Z0.out]; exact O7.out, ML7.out, HH7.out⟩
      case round =>
        obtain ⟨j, v, rfl, rfl, rfl, hri, hjs, hjo, hov, hml, hha⟩ := hrel
        obtain ⟨s, hs⟩ : ∃ s, s = MS.run lt LL j := ⟨_, rfl⟩
        have hnx : MS.run lt LL (j + 1) = s.step lt LL := by rw [hs]; rfl
        rw [← hs] at hri hjo hov hml hha ⊢
        have NX := Lib.hid hnx; have RI := Lib.hid hri; have JS := Lib.hid hjs; have JO := Lib.hid hjo; have OV := Lib.hid hov; have ML := Lib.hid hml; have HA := Lib.hid hha; have SJ := Lib.hid hs
        clear hnx hri hjs hjo hov hml hha hs
        by_cases h0 : 0 < s.l.length
        · rw [decide_eq_true h0]
          obtain ⟨q1, q2, q3⟩ := who_dom LL RI.out h0
          rw [q1]
          obtain ⟨qq, c, l1, l2⟩ := HL.out s.who q2
          obtain ⟨b, o, rfl, l4⟩ := l2 _ q3
          have HV0 : ∀ V, Below (w.heap.size + 5) wr V → Head (w.heap.size + 1) (w.heap.size + 3) V (s.who : Int) (hdOf LL s.at_ (s.who : Int)) s.who (s.at_.getD s.who 0) bl ol LL.length cl (w.heap.size + 2) 0 LL.length LL.length b o (LL.getD s.who []).length c := fun V h => by
            have mV := ML.out.below h
            obtain ⟨cs, r1, r2⟩ := mV.row
            refine ⟨rfl, (cell_of_row V (w.heap.size + 1) 0 _ _ _ mV.lists).trans rfl, q2, (mV.bel.cell (p := ⟨bl, ol + s.who, none⟩) (World.block_lt_of_cell? w _ l1)).trans l1, (cell_of_row V (w.heap.size + 3) 0 _ _ _ mV.ats).trans rfl, q2, ?_, q3, ?_⟩
            · rw [Nat.zero_add]; exact (cell_of_row V (w.heap.size + 2) s.who _ _ _ r1).trans (r2 _ q2)
            · refine ((mV.bel.cell (p := ⟨b, o + s.at_.getD s.who 0, none⟩) (World.block_lt_of_cell? w _ l4)).trans l4).trans ?_
              unfold hdOf
              rw [Int.toNat_natCast]
          clear l1 l2 l4
          have Q2 := Lib.hid q2; have Q3 := Lib.hid q3; have H0 := Lib.hid h0
          have TI := Lib.hid (told_inv lt LL RI.out h0)
          obtain ⟨x, hx⟩ : ∃ x, x = hdOf LL s.at_ (s.who : Int) := ⟨_, rfl⟩
          obtain ⟨kk, hkk⟩ : ∃ kk, kk = s.at_.getD s.who 0 := ⟨_, rfl⟩
          obtain ⟨ll, hll2⟩ : ∃ ll, ll = (LL.getD s.who []).length := ⟨_, rfl⟩
          obtain ⟨I, hI⟩ : ∃ I, I = s.who := ⟨_, rfl⟩
          rw [← hx, ← hkk, ← hll2, ← hI] at HV0
          rw [← hkk, ← hll2] at q3
          rw [← hI] at q2 ⊢
          have HX := Lib.hid hx; have HKK := Lib.hid hkk; have HL2 := Lib.hid hll2; have HI := Lib.hid hI
          clear hx hkk hll2 hI q1 h0
          have hol : s.out.length ≤ 1000000 := by have := RI.out.total; omega
          have hszr : w.heap.size + 5 ≤ wr.heap.size := by have := (Array.getElem?_eq_some_iff.1 ML.out.ord).1; omega
          go_wp2_with fail
          rename_i K hK
          obtain ⟨v3, w3, hrun, ov3, b3, k3⟩ := run_appI wr.drew 24 (w.heap.size + 5) s.out _ OV.out x hol hszr
          have HV := HV0
          have hS0 : Below (w.heap.size + 5) wr wr.drew := ⟨rfl, rfl, rfl, Nat.le_refl _, fun _ _ => rfl⟩
          have hSA : Below (w.heap.size + 5) wr (wr.drew.alloc (.cells #[.int .i64 x] 3)) := hS0.alloc hszr _
          have hS3 : Below (w.heap.size + 5) wr w3 := hS0.trans b3
          refine rg_calm (by kernel_rfl) rfl (S := fun V => Below (w.heap.size + 5) wr V) ?_
          refine rgd_pure 0 (some 51) rfl rfl (u10) (by kernel_rfl) (by kernel_rfl) (by kernel_rfl) (fun _ _ _ _ h => h) (by kernel_rfl) (exec_is _ (.inl rfl) _ (by kernel_rfl)) hS0 ?_
          refine rgd_load 1 (some 52) rfl rfl (by kernel_rfl) (by kernel_rfl) (by kernel_rfl) (fun _ _ _ _ h => h) (by kernel_rfl) _ _ rfl Try.underlying66 rfl ⟨w.heap.size + 1, 0, none⟩ (.slice (some ⟨bl, ol, none⟩) LL.length cl) (by kernel_rfl) (fun V h => (HV V h).lists) hS0 ?_
          refine rgd_pure 2 (some 53) rfl rfl (.int .i64 (I : Int)) (by kernel_rfl) (by kernel_rfl) (by kernel_rfl) (fun _ _ _ _ h => h) (by kernel_rfl) (exec_is _ (.inl rfl) _ (by kernel_rfl)) hS0 ?_
          refine rgd_index 3 (some 54) rfl rfl (by kernel_rfl) (by kernel_rfl) (by kernel_rfl) (fun _ _ _ _ h => h) (by kernel_rfl) 66 _ _ rfl (by kernel_rfl) (fun w => by kernel_rfl) (bl) (ol) LL.length cl I (by kernel_rfl) (by kernel_rfl) q2 hS0 ?_
          refine rgd_load 4 (some 55) rfl rfl (by kernel_rfl) (by kernel_rfl) (by kernel_rfl) (fun _ _ _ _ h => h) (by kernel_rfl) _ _ rfl Try.underlying24 rfl ⟨bl, ol + I, none⟩ (.slice (some ⟨b, o, none⟩) ll c) (by kernel_rfl) (fun V h => (HV V h).list) hS0 ?_
          refine rgd_load 5 (some 56) rfl rfl (by kernel_rfl) (by kernel_rfl) (by kernel_rfl) (fun _ _ _ _ h => h) (by kernel_rfl) _ _ rfl Try.underlying24 rfl ⟨w.heap.size + 3, 0, none⟩ (.slice (some ⟨w.heap.size + 2, 0, none⟩) LL.length LL.length) (by kernel_rfl) (fun V h => (HV V h).ats) hS0 ?_
          refine rgd_pure 6 (some 57) rfl rfl (.int .i64 (I : Int)) (by kernel_rfl) (by kernel_rfl) (by kernel_rfl) (fun _ _ _ _ h => h) (by kernel_rfl) (exec_is _ (.inl rfl) _ (by kernel_rfl)) hS0 ?_
          refine rgd_index 7 (some 58) rfl rfl (by kernel_rfl) (by kernel_rfl) (by kernel_rfl) (fun _ _ _ _ h => h) (by kernel_rfl) 24 _ _ rfl (by kernel_rfl) (fun w => by kernel_rfl) (w.heap.size + 2) (0) LL.length LL.length I (by kernel_rfl) (by kernel_rfl) q2 hS0 ?_
          refine rgd_load 8 (some 59) rfl rfl (by kernel_rfl) (by kernel_rfl) (by kernel_rfl) (fun _ _ _ _ h => h) (by kernel_rfl) _ _ rfl Try.underlying3 rfl ⟨w.heap.size + 2, 0 + I, none⟩ (.int .i64 (kk : Int)) (by kernel_rfl) (fun V h => (HV V h).at_) hS0 ?_
          refine rgd_index 9 (some 60) rfl rfl (by kernel_rfl) (by kernel_rfl) (by kernel_rfl) (fun _ _ _ _ h => h) (by kernel_rfl) 24 _ _ rfl (by kernel_rfl) (fun w => by kernel_rfl) (b) (o) ll c kk (by kernel_rfl) (by kernel_rfl) q3 hS0 ?_
          refine rgd_load 10 (some 61) rfl rfl (by kernel_rfl) (by kernel_rfl) (by kernel_rfl) (fun _ _ _ _ h => h) (by kernel_rfl) _ _ rfl Try.underlying3 rfl ⟨b, o + kk, none⟩ (.int .i64 x) (by kernel_rfl) (fun V h => (HV V h).head) hS0 ?_
          refine rgd_run 11 (some 62) (by kernel_rfl) rfl rfl (by kernel_rfl) (.slice (some ⟨wr.heap.size, 0, none⟩) 1 1) (wr.drew.alloc (.cells #[.int .i64 x] 3)) (by kernel_rfl) hSA ?_
          refine rgd_run 12 (some 63) (by kernel_rfl) rfl rfl (by kernel_rfl) v3 w3 (exec_push _ _ rfl _ _ _ (by kernel_rfl) (by kernel_rfl) hrun) hS3 ?_
          refine rgd_pure 13 (some 10) rfl rfl v3 (by kernel_rfl) (by kernel_rfl) (by kernel_rfl) (fun _ _ _ _ h => h) (by kernel_rfl) (exec_is _ (.inr rfl) _ (by kernel_rfl)) hS3 ?_
          refine wpAnyH_done (by kernel_rfl) (hK _ _ ?_) _
          simp only [Act.put, List.setIfInBounds_toArray, List.set_cons_zero, List.set_cons_succ]
          have H3 := HV w3 hS3
          have M3 := ML.out.below hS3
          obtain ⟨cs, r1, r2⟩ := M3.row
          have HA3 := heap_same HA.out (w' := w3) (fun k cs t m hk ht => (k3 k (Array.getElem?_eq_some_iff.1 hk).1 (own_ne OV.out hk ht)).trans hk)
          have c5 := H3.ats
          have c6 := H3.at_
          rw [Nat.zero_add] at c6
          have f6 := frozen_of_row w3 (w.heap.size + 2) I _ _ r1
          have g4 := set_grown w3 (w.heap.size + 2) I (.int .i64 ((kk : Int) + 1))
          have HA4 := Lib.hid (heap_same HA3 (w' := w3.setCell ⟨w.heap.size + 2, I, none⟩ (.int .i64 ((kk : Int) + 1))) (fun k cs2 t m hk ht => (g4.block k (Array.getElem?_eq_some_iff.1 hk).1 (fun e => by injection e with e; subst e; rw [r1] at hk; cases hk; exact ht rfl)).trans hk))
          have OV4 := Lib.hid (World.ownsRow.kept ov3 g4 (.inr (fun e => by have := (ov3.lt _ e).1; omega)))
          have M4 : MLaid w bl ol cl LL L caps (s.told lt LL).at_ (w3.setCell ⟨w.heap.size + 2, I, none⟩ (.int .i64 ((kk : Int) + 1))) := by
            have ne : ∀ k, k ≠ w.heap.size + 2 → some k ≠ some (w.heap.size + 2) := fun k h e => h (Option.some.inj e)
            refine ⟨(g4.block _ (Array.getElem?_eq_some_iff.1 M3.less).1 (ne _ (by omega))).trans M3.less, (g4.block _ (Array.getElem?_eq_some_iff.1 M3.lists).1 (ne _ (by omega))).trans M3.lists, ⟨_, set_cellsH r1 I _, fun i hi => ?_⟩, (g4.block _ (Array.getElem?_eq_some_iff.1 M3.ats).1 (ne _ (by omega))).trans M3.ats, (g4.block _ (Array.getElem?_eq_some_iff.1 M3.ord).1 (ne _ (by omega))).trans M3.ord, M3.bel.setCell (p := ⟨w.heap.size + 2, I, none⟩) (by show w.heap.size ≤ w.heap.size + 2; omega) _⟩
            have hti := TI.out.2.2.2
            rw [← HKK.out, ← HI.out] at hti
            by_cases e : i = I
            · subst e
              rw [hti]
              have hlt : i < cs.size := by have := r2 i hi; exact (Array.getElem?_eq_some_iff.1 this).1
              rw [Array.getElem?_setIfInBounds_self_of_lt hlt]
              rfl
            · rw [Array.getElem?_setIfInBounds_ne (fun h => e h.symm), r2 i hi]
              congr 3
              show _ = (s.at_.set s.who _).getD i 0
              rw [← HI.out]
              simp only [List.getD, List.getElem?_set_ne (fun h => e (h.symm))]
          have ML4 := Lib.hid M4
          have q2' : (I : Int) < (LL.length : Int) := by omega
          have hkb : ll ≤ 10000 := by
            have h9 := ST.out s.who Q2.out
            have h10 := SU.out (s.who + 1)
            rw [← HL2.out] at h9
            omega
          clear H3 M3 r1 r2 HA3 g4 ov3 M4 hrun k3 b3 hS0 hSA hS3 HV0
          go_wp2_with fail
          generalize w3.setCell ⟨w.heap.size + 2, I, none⟩ (.int .i64 ((kk : Int) + 1)) = w4 at HA4 OV4 ML4 ⊢
          clear c5 c6 f6
          rename_i K9 hK9
          have MD := Lib.hid (ML4.out.below (V := w4.drew) ⟨rfl, rfl, rfl, Nat.le_refl _, fun _ _ => rfl⟩)
          have d1 := (cell_of_row w4.drew (w.heap.size + 3) 0 _ _ _ MD.out.ats).trans (show _ = some (.slice (some ⟨w.heap.size + 2, 0, none⟩) LL.length LL.length) from rfl)
          have d2 := (cell_of_row w4.drew (w.heap.size + 1) 0 _ _ _ MD.out.lists).trans (show _ = some (.slice (some ⟨bl, ol, none⟩) LL.length cl) from rfl)
          have d3 : w4.drew.cell? ⟨w.heap.size + 2, 0 + I, none⟩ = some (.int .i64 ((kk : Int) + 1)) := by
            obtain ⟨cs, r1, r2⟩ := MD.out.row
            have hti := TI.out.2.2.2
            rw [← HKK.out, ← HI.out] at hti
            rw [Nat.zero_add]
            refine ((cell_of_row _ _ I _ _ _ r1).trans (r2 I q2)).trans ?_
            rw [hti]
            rfl
          obtain ⟨qq, c, l1, l2⟩ := (HL.out.below MD.out.bel) I q2
          rw [HI.out, ← HL2.out, ← HI.out] at l1
          have hmea : j + 1 ≤ 10000 := by
            have h1 := (step_inv lt LL RI.out H0.out).1.total
            have h2 := (step_inv lt LL RI.out H0.out).2
            have h3 := JO.out
            omega
          have SV := Lib.hid (step_inv lt LL RI.out H0.out)
          refine rg_calm (by kernel_rfl) rfl (S := fun V => V = w4.drew) ?_
          refine rgd_load 0 (some 70) rfl rfl (by kernel_rfl) (by kernel_rfl) (by kernel_rfl) (fun _ _ _ _ h => h) (by kernel_rfl) _ _ rfl Try.underlying24 rfl ⟨w.heap.size + 3, 0, none⟩ (.slice (some ⟨w.heap.size + 2, 0, none⟩) LL.length LL.length) (by kernel_rfl) (fun V h => h ▸ d1) rfl ?_
          refine rgd_pure 1 (some 71) rfl rfl (.int .i64 (I : Int)) (by kernel_rfl) (by kernel_rfl) (by kernel_rfl) (fun _ _ _ _ h => h) (by kernel_rfl) (exec_is _ (.inl rfl) _ (by kernel_rfl)) rfl ?_
          refine rgd_index 2 (some 72) rfl rfl (by kernel_rfl) (by kernel_rfl) (by kernel_rfl) (fun _ _ _ _ h => h) (by kernel_rfl) 24 _ _ rfl (by kernel_rfl) (fun w => by kernel_rfl) (w.heap.size + 2) (0) LL.length LL.length I (by kernel_rfl) (by kernel_rfl) q2 rfl ?_
          refine rgd_load 3 (some 73) rfl rfl (by kernel_rfl) (by kernel_rfl) (by kernel_rfl) (fun _ _ _ _ h => h) (by kernel_rfl) _ _ rfl Try.underlying3 rfl ⟨w.heap.size + 2, 0 + I, none⟩ (.int .i64 ((kk : Int) + 1)) (by kernel_rfl) (fun V h => h ▸ d3) rfl ?_
          refine rgd_load 4 (some 74) rfl rfl (by kernel_rfl) (by kernel_rfl) (by kernel_rfl) (fun _ _ _ _ h => h) (by kernel_rfl) _ _ rfl Try.underlying66 rfl ⟨w.heap.size + 1, 0, none⟩ (.slice (some ⟨bl, ol, none⟩) LL.length cl) (by kernel_rfl) (fun V h => h ▸ d2) rfl ?_
          refine rgd_pure 5 (some 75) rfl rfl (.int .i64 (I : Int)) (by kernel_rfl) (by kernel_rfl) (by kernel_rfl) (fun _ _ _ _ h => h) (by kernel_rfl) (exec_is _ (.inl rfl) _ (by kernel_rfl)) rfl ?_
          refine rgd_index 6 (some 76) rfl rfl (by kernel_rfl) (by kernel_rfl) (by kernel_rfl) (fun _ _ _ _ h => h) (by kernel_rfl) 66 _ _ rfl (by kernel_rfl) (fun w => by kernel_rfl) (bl) (ol) LL.length cl I (by kernel_rfl) (by kernel_rfl) q2 rfl ?_
          refine rgd_load 7 (some 77) rfl rfl (by kernel_rfl) (by kernel_rfl) (by kernel_rfl) (fun _ _ _ _ h => h) (by kernel_rfl) _ _ rfl Try.underlying24 rfl ⟨bl, ol + I, none⟩ (.slice qq ll c) (by kernel_rfl) (fun V h => h ▸ l1) rfl ?_
          refine rgd_pure 8 (some 78) rfl rfl (.int .i64 (ll : Int)) (by kernel_rfl) (by kernel_rfl) (by kernel_rfl) (fun _ _ _ _ h => h) (by kernel_rfl) (fun w => by kernel_rfl) rfl ?_
          by_cases hm : kk + 1 < ll
          · refine rgd_pure 9 (some 79) rfl rfl (.bool true) (by kernel_rfl) (by kernel_rfl) (by kernel_rfl) (fun _ _ _ _ h => h) (by kernel_rfl) (exec_lss _ _ _ _ rfl ((kk : Int) + 1) (ll : Int) true (decide_eq_true (by omega)) (by kernel_rfl) (by kernel_rfl)) rfl ?_
            refine wpAnyH_done (by kernel_rfl) (hK9 _ _ ?_) _
            simp only [Act.put, List.setIfInBounds_toArray, List.set_cons_zero, List.set_cons_succ]
            have HD4 : Hid (HeapAt (w.heap.size + 5) (w.heap.size + 5) 69 #[.pointer (some ⟨w.heap.size + 4, 0, none⟩)] (s.told lt LL).l (s.told lt LL).turn w4.drew) := HA4
            have OD4 : Hid (w4.drew.ownsRow (w.heap.size + 5) 3 1 v3 (s.out ++ [x]).length (icells (s.out ++ [x]))) := OV4
            clear hK9 d1 d2 d3 l1 l2 HA4 OV4 ML4
            generalize w4.drew = wD at MD HD4 OD4 ⊢
            have hse : s.step lt LL = (s.told lt LL).push lt LL s.who := by
              unfold MS.step
              rw [if_pos (by rw [TI.out.2.2.2, ← HKK.out, ← HL2.out]; exact hm)]
            have TU := merge_tell bl ol cl LL L caps lt domL S TT.out w HS.out SW.out HL.out HDL.out (s.told lt LL).at_ wD MD.out
            have PU := Lib.hid (push_is (w.heap.size + 5) (w.heap.size + 5) _ _ _ _ _ TU (fun V V' h hb => h.trans hb) (s.told lt LL).l (s.told lt LL).turn (I : Int) wD HD4.out (Nat.le_refl _) TI.out.1.dom ⟨I, rfl, q2, by have := TI.out.2.2.2; rw [← HKK.out, ← HI.out] at this; rw [this, HI.out, ← HL2.out]; exact hm⟩ (Below.refl _ _) (by have := TI.out.1.many; omega) (by have := TI.out.1.turn; have := TI.out.1.total; omega))
            clear TU
            go_wp2_with fail
            refine PU.out.mono ?_
            rintro e w5 ⟨rfl, hh5, hb5, ha5⟩
            have HX5 : Hid (HeapAt (w.heap.size + 5) (w.heap.size + 5) 69 #[.pointer (some ⟨w.heap.size + 4, 0, none⟩)] (s.step lt LL).l (s.step lt LL).turn w5) := by
              rw [hse]
              unfold MS.push
              rw [← HI.out]
              exact hh5
            have MX : Hid (MLaid w bl ol cl LL L caps (s.step lt LL).at_ w5) := by
              rw [hse]; exact MD.out.below hb5
            have OX := Lib.hid (own_apart OD4.out ha5 HD4.out)
            have SE := Lib.hid hse
            clear hh5 hb5 ha5 PU hse
            have TP := merge_tell bl ol cl LL L caps lt domL S TT.out w HS.out SW.out HL.out HDL.out (s.step lt LL).at_ w5 MX.out
            have PP := Lib.hid (pop_any (w.heap.size + 5) (w.heap.size + 5) _ _ _ _ _ TP (fun V V' h hb => h.trans hb) (s.step lt LL).l (s.step lt LL).turn w5 HX5.out (Nat.le_refl _) SV.out.1.dom (Below.refl _ _) (by have := SV.out.1.many; omega))
            clear TP
            go_wp2_with fail
            refine PP.out.mono ?_
            rintro e w6 ⟨rfl, hh6, hb6, ha6⟩
            have HH6 := Lib.hid hh6; have ML6 := Lib.hid (MX.out.below hb6); have OV6 := Lib.hid (own_apart OX.out ha6 HX5.out)
            clear hh6 hb6 ha6 PP
            go_wp2_with fail
            go_roundw
            case rel =>
              have hso : (s.step lt LL).out = s.out ++ [x] := by rw [SE.out, HX.out]; rfl
              refine ⟨j + 1, v3, rfl, by rw [NX.out]; rfl, by rw [NX.out], by rw [NX.out]; exact SV.out.1, fun j' h => ?_, by rw [NX.out, SV.out.2, JO.out], by rw [NX.out, hso]; exact OV6.out, by rw [NX.out]; exact ML6.out, by rw [NX.out]; exact HH6.out⟩
              by_cases e : j' = j
              · subst e
                rw [← SJ.out]
                intro h2
                have := H0.out
                rw [h2] at this
                simp at this
              · exact JS.out j' (by omega)
            case measure =>
              have m1 := slLen_own OV6.out
              have m2 := slLen_own OV.out
              have m3 := JO.out
              rw [List.length_append, List.length_singleton] at m1
              simp [m1, m2]
              omega
          · refine rgd_pure 9 (some 79) rfl rfl (.bool false) (by kernel_rfl) (by kernel_rfl) (by kernel_rfl) (fun _ _ _ _ h => h) (by kernel_rfl) (exec_lss _ _ _ _ rfl ((kk : Int) + 1) (ll : Int) false (decide_eq_false (by omega)) (by kernel_rfl) (by kernel_rfl)) rfl ?_
            refine wpAnyH_done (by kernel_rfl) (hK9 _ _ ?_) _
            simp only [Act.put, List.setIfInBounds_toArray, List.set_cons_zero, List.set_cons_succ]
            have HD4 : Hid (HeapAt (w.heap.size + 5) (w.heap.size + 5) 69 #[.pointer (some ⟨w.heap.size + 4, 0, none⟩)] (s.told lt LL).l (s.told lt LL).turn w4.drew) := HA4
            have OD4 : Hid (w4.drew.ownsRow (w.heap.size + 5) 3 1 v3 (s.out ++ [x]).length (icells (s.out ++ [x]))) := OV4
            clear hK9 d1 d2 d3 l1 l2 HA4 OV4 ML4
            generalize w4.drew = wD at MD HD4 OD4 ⊢
            have hse : s.step lt LL = s.told lt LL := by
              unfold MS.step
              rw [if_neg (by rw [TI.out.2.2.2, ← HKK.out, ← HL2.out]; exact hm)]
            have HX5 : Hid (HeapAt (w.heap.size + 5) (w.heap.size + 5) 69 #[.pointer (some ⟨w.heap.size + 4, 0, none⟩)] (s.step lt LL).l (s.step lt LL).turn wD) := by
              rw [hse]; exact HD4.out
            have MX : Hid (MLaid w bl ol cl LL L caps (s.step lt LL).at_ wD) := by
              rw [hse]; exact MD.out
            have OX := OD4
            have SE := Lib.hid hse
            clear hse
            have TP := merge_tell bl ol cl LL L caps lt domL S TT.out w HS.out SW.out HL.out HDL.out (s.step lt LL).at_ wD MX.out
            have PP := Lib.hid (pop_any (w.heap.size + 5) (w.heap.size + 5) _ _ _ _ _ TP (fun V V' h hb => h.trans hb) (s.step lt LL).l (s.step lt LL).turn wD HX5.out (Nat.le_refl _) SV.out.1.dom (Below.refl _ _) (by have := SV.out.1.many; omega))
            clear TP
            go_wp2_with fail
            refine PP.out.mono ?_
            rintro e w6 ⟨rfl, hh6, hb6, ha6⟩
            have HH6 := Lib.hid hh6; have ML6 := Lib.hid (MX.out.below hb6); have OV6 := Lib.hid (own_apart OX.out ha6 HX5.out)
            clear hh6 hb6 ha6 PP
            go_wp2_with fail
            go_roundw
            case rel =>
              have hso : (s.step lt LL).out = s.out ++ [x] := by rw [SE.out, HX.out]; rfl
              refine ⟨j + 1, v3, rfl, by rw [NX.out]; rfl, by rw [NX.out], by rw [NX.out]; exact SV.out.1, fun j' h => ?_, by rw [NX.out, SV.out.2, JO.out], by rw [NX.out, hso]; exact OV6.out, by rw [NX.out]; exact ML6.out, by rw [NX.out]; exact HH6.out⟩
              by_cases e : j' = j
              · subst e
                rw [← SJ.out]
                intro h2
                have := H0.out
                rw [h2] at this
                simp at this
              · exact JS.out j' (by omega)
            case measure =>
              have m1 := slLen_own OV6.out
              have m2 := slLen_own OV.out
              have m3 := JO.out
              rw [List.length_append, List.length_singleton] at m1
              simp [m1, m2]
              omega
        · rw [decide_eq_false h0]
          go_wp2_with fail
          exact bodyPost_ret (results_tmp rfl _ _ _) rfl ⟨_, rfl, ⟨j, JS.out, by rw [← SJ.out]; exact List.eq_nil_of_length_eq_zero (by omega), by rw [← SJ.out]; exact OV.out⟩, ML.out.bel⟩
end Go.Proofs.Ytiadljcfcncbkaa
