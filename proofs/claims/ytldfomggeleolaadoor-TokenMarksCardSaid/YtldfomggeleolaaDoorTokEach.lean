/- token's each: what it hands to a loop over it. -/
import Derived.RangeFuncNested
import Derived.RangeFuncBound
import Derived.RangeFuncCalls
import Derived.RangeFuncLeaves
import Derived.RangeFuncBox
import Derived.Shelf.Abstract
import Derived.Shelf.RegionOpen
import Derived.WalkKit
import Derived.OwnWalkIn
import Derived.TacticsInMore
import Derived.LoopNIn
import Derived.LoopIn
import Derived.Maps.AppendAt
import Derived.Test.YtldfomggeleolaaDoorTokNext
namespace Go.Proofs.YtldfomggeleolaaDoor
open Go Go.RowKit Go.Shelf
set_option linter.unusedVariables false
attribute [local go_sem] Oper.semAt_some

theorem below_grown {w w' : World} (h : Below w.heap.size w w') : w.grownBy w' none := ⟨h.os, h.tape, h.output, h.size, fun k hk _ => h.block k hk⟩
/-- an operation that is no defer statement, within a round, is as it is elsewhere -/
theorem operIn_of_oper {P : Program} {o : Oper} {a : Act} {w : World} {K K' : Act → World → Prop} {Q : Exit → Act → World → Prop} (l n : Nat) (hd : ∀ c, o.op ≠ .defer c) (hK : ∀ a w, K a w → K' a w) (h : Oper.wp P o a w K Q) : Oper.wpIn (Fence.wide.inRound l) n P o a w K' Q := by
  refine ⟨fun _ _ => trivial, ?_⟩
  rw [Oper.semAt_plain _ _ _ hd]
  unfold Oper.wp at h
  cases hr : (execOp a.eval o).run P w with
  | ok v w' =>
    rw [hr] at h
    cases v with
    | value v => exact hK _ _ h
    | skip => exact hK _ _ h
    | defer d => exact hK _ _ h
    | enter f args => exact ⟨fun h0 => (by simp [Fence.wide, Fence.inRound] at h0), CallsIn.inRound l (callsIn_wide.2 ((show Calls P f args w' _ from h).mono fun e w'' h2 => by cases e <;> first | exact hK _ _ h2 | exact h2))⟩
    | row r args => exact ⟨fun h0 => (by simp [Fence.wide, Fence.inRound] at h0), fun c cs _ => let ⟨v, w'', r, s⟩ := (show Rows P _ args w' _ from h) c cs; ⟨v, w'', hK _ _ r, stepsIn_wide.2 s⟩⟩
    | round => exact h.elim
    | _ => exact h.elim
  | halt hh w' =>
    rw [hr] at h
    cases hh <;> first | exact h | exact h.elim
theorem listIn_of_list {P : Program} {ops : Array Oper} {Q : Exit → Act → World → Prop} (hQ : ¬ LetsOut Q) (l n : Nat) : ∀ (rest : List Oper) (a : Act) (w : World), (∀ o ∈ rest, ∀ c, o.op ≠ .defer c) → wpList P ops Q rest a w → wpListIn (Fence.wide.inRound l) n P ops Q rest a w := by
  intro rest
  induction rest with
  | nil => intro a w _ h; exact h
  | cons o rest ih =>
    intro a w hd h
    unfold wpListIn
    unfold wpList at h
    split at h
    · rename_i hw
      rw [if_pos hw]
      exact operIn_of_oper l n (hd o (by simp)) (fun a w hk => ih a w (fun o ho => hd o (by simp [ho])) hk) (h.resolve_right fun x => hQ x.2)
    · rename_i hw
      rw [if_neg hw]
      exact ⟨fun _ _ => trivial, ih _ _ (fun o ho => hd o (by simp [ho])) h⟩

/-- a word that a loop is handed: the how manyth; from where, up to where -/
abbrev Wd (s : ByteArray) := { x : Nat × Nat × Nat // x.1 < s.size ∧ x.2.1 < x.2.2 ∧ x.2.2 ≤ s.size }
def encW {s : ByteArray} (x : Wd s) : Array Value := #[.int .i64 (x.1.1 : Int), spv x.1.2]
/-- what a round keeps: all that lay below n₀; blocks of one span -/
def KpT (n₀ : Nat) (A B : World) : Prop := Below n₀ A B ∧ (∀ (k : Nat) (cs : Array Value) (m : Nat × Nat), A.heap[k]? = some (Obj.cells cs 31 m) → cs.size = 2 → B.heap[k]? = some (Obj.cells cs 31 m)) ∧
  ∀ (k : Nat) (cs : Array Value) (m : Nat × Nat), A.heap[k]? = some (Obj.cells cs 9 m) → B.heap[k]? = some (Obj.cells cs 9 m)
theorem KpT.trans {n₀ : Nat} {A B C : World} (h : KpT n₀ A B) (k : KpT n₀ B C) : KpT n₀ A C := ⟨h.1.trans k.1, fun j cs m hj hc => k.2.1 j cs m (h.2.1 j cs m hj hc) hc, fun j cs m hj => k.2.2 j cs m (h.2.2 j cs m hj)⟩
theorem KpT.put {n₀ : Nat} {w : World} (hn : n₀ ≤ w.heap.size) (W : World) (l : Nat) (o o' : Obj) (hl : w.heap.size ≤ l) (h : W.heap[l]? = some o) (ho : o.isCells = false) (h2 : o.isWalk = false) : KpT n₀ W (W.putObj l o') :=
  have g : ∀ (k : Nat) (cs : Array Value) (t : TypeId) (m : Nat × Nat), W.heap[k]? = some (Obj.cells cs t m) → (W.putObj l o').heap[k]? = some (Obj.cells cs t m) := fun k cs t m hk => by
    by_cases e : k = l
    · subst e; rw [h] at hk; cases hk; cases ho
    · exact (World.putObj_heap_other e).trans hk
  ⟨belowK_b hn W l o o' hl h ho h2, fun k cs m hk _ => g k cs _ m hk, fun k cs m hk => g k cs _ m hk⟩
theorem KpT.of_below {n₀ : Nat} {A B : World} (h : Below A.heap.size A B) (hn : n₀ ≤ A.heap.size) : KpT n₀ A B :=
  ⟨h.mono hn, fun k cs m hk _ => (h.block k (Array.getElem?_eq_some_iff.1 hk).1).trans hk, fun k cs m hk => (h.block k (Array.getElem?_eq_some_iff.1 hk).1).trans hk⟩

theorem two_new (w : World) (x y : Value) (t : TypeId) : (w.alloc (.cells #[x, y] t)).cell? ⟨w.heap.size, 0, none⟩ = some x ∧ (w.alloc (.cells #[x, y] t)).cell? ⟨w.heap.size, 1, none⟩ = some y ∧
    (w.alloc (.cells #[x, y] t)).frozen? ⟨w.heap.size, 0, none⟩ = false ∧ (w.alloc (.cells #[x, y] t)).frozen? ⟨w.heap.size, 1, none⟩ = false := by
  have h := heap_alloc_new w (.cells #[x, y] t)
  exact ⟨(cell_of_row _ _ 0 _ _ _ h).trans rfl, (cell_of_row _ _ 1 _ _ _ h).trans rfl, frozen_of_row _ _ 0 _ _ h, frozen_of_row _ _ 1 _ _ h⟩
theorem wide_depth {m : Nat} : Fence.wide.depth.isSome = true → 1 ≤ m := fun h => by simp [Fence.wide] at h
theorem grownBy_none_trans {A B C : World} (h : A.grownBy B none) (k : Below B.heap.size B C) : A.grownBy C none :=
  ⟨k.os.trans h.os, k.tape.trans h.tape, k.output.trans h.output, Nat.le_trans h.size k.size, fun j hj hne => (k.block j (Nat.lt_of_lt_of_le hj h.size)).trans (h.block j hj hne)⟩

set_option maxHeartbeats 4000000 in
set_option maxRecDepth 100000 in
theorem each1_in (s : ByteArray) (hs : s.size ≤ 100000) (m l Bn : Nat) (w0 : World) (hT : Tables w0) (J Jx : List (Wd s) → World → Prop) (W : World) (hBn : W.heap[Bn]? = some (Obj.cells #[.string s] 9 (0, 0))) (hW : Below w0.heap.size w0 W) (hJ : AbidesFrom W.heap.size J)
    (hY : ∀ pre x W1, J pre W1 → pre.length < s.size → ((pre.map (·.1) ++ [x.1]) <+: Tok.num 0 (Tok.spans s)) → YieldAt Fence.wide (m - 1) Tryd.prog l (encW x) W1 fun e W' =>
      (e = .returned (.bool true) ∧ J (pre ++ [x]) W' ∧ KpT w0.heap.size W1 W') ∨ (e = .returned (.bool false) ∧ Jx (pre ++ [x]) W'))
    (h0 : J [] W) :
    CallsIn Fence.wide m Tryd.prog 34 #[.func (.yield l) #[] #[], .pointer (some ⟨Bn, 0, none⟩)] W fun e W' => (∃ v, e = .returned v) ∧
      ((∃ ys : List (Wd s), ys.map (·.1) = Tok.num 0 (Tok.spans s) ∧ J ys W') ∨ (∃ pre : List (Wd s), (pre.map (·.1) <+: Tok.num 0 (Tok.spans s)) ∧ Jx pre W')) := by
  have HT := Lib.hid hT; have HB := Lib.hid hBn; have HW := Lib.hid hW
  have hsz := hW.size
  have NX := Lib.hid (fun p w h1 h2 => tokNext_is s p w hs h1 h2)
  have hb : W.cell? ⟨Bn, 0, none⟩ = some (.string s) := (cell_of_row W Bn 0 _ _ _ hBn).trans rfl
  clear hT hBn hW
  refine callsIn_of_wp Tryd.func34 rfl trivial ?_ rfl
  simp only [Tryd.ntmps34, List.size_toArray, List.length_cons, List.length_nil, Nat.reduceAdd, Nat.reduceSub, Array.replicate_succ, Array.replicate_zero, List.push_toArray, List.append_toArray, List.nil_append, List.cons_append]
  gi_wp2_with (fail)
  refine ⟨trivial, wide_depth, callsIn_wide.2 ((NX.out 0 W (Nat.zero_le _) (HT.out.below HW.out)).mono ?_)⟩
  rintro e w1 ⟨rfl, hb1⟩
  obtain ⟨c0, c1, f0, f1⟩ := two_new w1 (.int .i64 0) (.int .i64 0) 31
  simp only [spv]
  gi_wp2_with (fail)
  have hg1 := heap_alloc_new w1 (.cells #[.int .i64 (Tok.sk s false 0 : Nat), .int .i64 (Tok.sk s true (Tok.sk s false 0) : Nat)] 31)
  have hb2 : Below W.heap.size W (w1.alloc (.cells #[.int .i64 (Tok.sk s false 0 : Nat), .int .i64 (Tok.sk s true (Tok.sk s false 0) : Nat)] 31)) := hb1.alloc hb1.size _
  have hj2 := hJ _ _ _ none h0 (below_grown hb2) (fun r e => by cases e)
  have hb3 := HW.out.trans (hb2.mono hsz)
  have hgs := hb1.size
  clear c0 c1 f0 f1 hb1
  generalize w1.alloc (.cells #[.int .i64 (Tok.sk s false 0 : Nat), .int .i64 (Tok.sk s true (Tok.sk s false 0) : Nat)] 31) = w2 at hg1 hb2 hj2 hb3 ⊢
  generalize w1.heap.size = g0 at hg1 hgs ⊢
  have N2 := Lib.hid ((hb2.block Bn (Array.getElem?_eq_some_iff.1 HB.out).1).trans HB.out)
  have G1 := Lib.hid hg1; have J2 := Lib.hid hj2; have B3 := Lib.hid hb3
  have hnum := Lib.hid (rfl : Tok.num 0 (Tok.spans s) = Tok.num 0 (Tok.spans s))
  clear hg1 hb2 hj2 hb3
  gi_loopw [3, 4] (fun at_ t4 wr => ∃ (pre : List (Wd s)) (p f g : Nat), at_ = .int .i64 (pre.length : Int) ∧ t4 = .pointer (some ⟨g, 0, none⟩) ∧ p ≤ s.size ∧ s.size ≤ p + f ∧ pre.map (·.1) ++ Tok.num pre.length (Tok.spF s f p) = Tok.num 0 (Tok.spans s) ∧
      wr.heap[g]? = some (Obj.cells #[.int .i64 (Tok.sk s false p : Nat), .int .i64 (Tok.sk s true (Tok.sk s false p) : Nat)] 31 (0, 0)) ∧ w0.heap.size ≤ g ∧ Below w0.heap.size w0 wr ∧ J pre wr ∧ wr.heap[Bn]? = some (Obj.cells #[.string s] 9 (0, 0)))
    (fun at_ _ _ => s.size + 1 - (intOf at_).toNat)
  case atStart => exact ⟨[], 0, s.size, g0, rfl, rfl, Nat.zero_le _, by omega, rfl, G1.out, by omega, B3.out, J2.out, N2.out⟩
  case round =>
    obtain ⟨pre, p, f, g, rfl, rfl, hp, hf, hl, hg, hge, hb, hj, hn⟩ := hrel
    have NB := Lib.hid hn
    have hbn : wr.cell? ⟨Bn, 0, none⟩ = some (.string s) := (cell_of_row wr Bn 0 _ _ _ hn).trans rfl
    clear hn
    have c0 := (cell_of_row wr g 0 _ _ _ hg).trans (show _ = some (Value.int .i64 (Tok.sk s false p : Nat)) from rfl)
    have c1 := (cell_of_row wr g 1 _ _ _ hg).trans (show _ = some (Value.int .i64 (Tok.sk s true (Tok.sk s false p) : Nat)) from rfl)
    have hll := congrArg List.length hl
    rw [List.length_append, List.length_map, Tok.num_len, Tok.num_len] at hll
    have hsi := (Tok.sp_in s).1
    have G := Lib.hid hg; have B := Lib.hid hb; have JJ := Lib.hid hj
    by_cases hlt : Tok.sk s false p < s.size
    · have hse := (Tok.sp_lt hp).2 hlt
      have hee := Tok.sk_le (b := true) (Tok.sk_le (b := false) hp).2
      have hpp := (Tok.sk_le (b := false) hp).1
      have hst := Tok.sp_step s f p hp hlt hf
      rw [hst, List.length_cons] at hll
      rw [hst, Tok.num] at hl
      have hlen : pre.length < s.size := by omega
      have LL := Lib.hid hl
      have NN := Lib.hid (fun w h => NX.out (Tok.sk s true (Tok.sk s false p)) w hee.2 h)
      obtain ⟨fn, tmps, assign, body, hy, hR⟩ := hY pre ⟨(pre.length, Tok.sk s false p, Tok.sk s true (Tok.sk s false p)), hlen, hse, hee.2⟩ wr hj hlen ⟨_, by rw [List.append_assoc]; exact hl⟩
      clear hst hl hj hg hb hll hsi hnum
      generalize Tok.sk s true (Tok.sk s false p) = e at *
      generalize Tok.sk s false p = a at *
      have hse' : (a : Int) < (e : Int) := by omega
      dsimp only [encW, spv] at hy
      have RR := Lib.hid hR
      clear hR
      gi_wp2_with (fail)
      refine ⟨wide_depth, RR.out.mono ?_⟩
      rintro e3 W3 (⟨rfl, hJ3, hk3⟩ | ⟨rfl, hJx3⟩)
      · have h3 := hk3.2.1 g _ _ G.out rfl
        have N3 := Lib.hid (hk3.2.2 Bn _ _ NB.out)
        have hb3 := B.out.trans hk3.1
        have hbn3 : W3.cell? ⟨Bn, 0, none⟩ = some (.string s) := (cell_of_row W3 Bn 0 _ _ _ N3.out).trans rfl
        clear c0 c1
        have c0 := (cell_of_row W3 g 0 _ _ _ h3).trans (show _ = some (Value.int .i64 (a : Nat)) from rfl)
        have c1 := (cell_of_row W3 g 1 _ _ _ h3).trans (show _ = some (Value.int .i64 (e : Nat)) from rfl)
        obtain ⟨d0, d1, f0, f1⟩ := two_new W3 (.int .i64 0) (.int .i64 0) 31
        obtain ⟨d2, d3, f2, f3⟩ := two_new W3 (.int .i64 (a : Nat)) (.int .i64 (e : Nat)) 31
        have hbn4 := cell_alloc (.cells #[.int .i64 (a : Nat), .int .i64 (e : Nat)] 31) hbn3
        gi_wp2_with (fail)
        have hA := heap_alloc_new W3 (.cells #[.int .i64 (a : Nat), .int .i64 (e : Nat)] 31)
        have hbA : Below W3.heap.size W3 (W3.alloc (.cells #[.int .i64 (a : Nat), .int .i64 (e : Nat)] 31)) := (Below.refl _ W3).alloc (Nat.le_refl _) _
        have hTA := HT.out.below (hb3.trans (hbA.mono hb3.size))
        refine ⟨trivial, wide_depth, callsIn_wide.2 ((NN.out _ hTA).mono ?_)⟩
        rintro e4 W4 ⟨rfl, hb4⟩
        have h4 := (hb4.block _ (by simp)).trans hA
        have hb5 := hbA.trans (hb4.mono hbA.size)
        clear c0 c1 d0 d1 f0 f1 d2 d3 f2 f3 hA hbA hTA hb4 hbn4 hbn3 hbn
        have c0 := (cell_of_row W4 W3.heap.size 0 _ _ _ h4).trans (show _ = some (Value.int .i64 (a : Nat)) from rfl)
        have c1 := (cell_of_row W4 W3.heap.size 1 _ _ _ h4).trans (show _ = some (Value.int .i64 (e : Nat)) from rfl)
        have f0 := frozen_of_row W4 W3.heap.size 0 _ _ h4
        have f1 := frozen_of_row W4 W3.heap.size 1 _ _ h4
        simp only [spv]
        gi_wp2_with (fail)
        have h6 := set_cells (set_cells h4 0 (.int .i64 (Tok.sk s false e : Nat))) 1 (.int .i64 (Tok.sk s true (Tok.sk s false e) : Nat))
        have hb6 := (hb5.setCell (p := ⟨W3.heap.size, 0, none⟩) (Nat.le_refl _) (.int .i64 (Tok.sk s false e : Nat))).setCell (p := ⟨W3.heap.size, 1, none⟩) (Nat.le_refl _) (.int .i64 (Tok.sk s true (Tok.sk s false e) : Nat))
        clear c0 c1 f0 f1 h4 hb5
        generalize (W4.setCell ⟨W3.heap.size, 0, none⟩ (.int .i64 (Tok.sk s false e : Nat))).setCell ⟨W3.heap.size, 1, none⟩ (.int .i64 (Tok.sk s true (Tok.sk s false e) : Nat)) = W6 at h6 hb6 ⊢
        have hJ6 := hJ _ _ _ none hJ3 (below_grown hb6) (fun r e => by cases e)
        have hB6 := hb3.trans (hb6.mono hb3.size)
        go_roundw
        case rel =>
          refine ⟨pre ++ [⟨(pre.length, a, e), hlen, hse, hee.2⟩], e, f - 1, W3.heap.size, by rw [List.length_append]; go_num, rfl, hee.2, by omega, ?_, h6, hb3.size, hB6, hJ6, (hb6.block Bn (Array.getElem?_eq_some_iff.1 N3.out).1).trans N3.out⟩
          rw [List.map_append, List.length_append, List.append_assoc]
          exact LL.out
        case measure => simp [intOf]; omega
      · clear c0 c1 hbn
        gi_wp2_with (fail)
        refine bodyPost_ret (results_none rfl _ _ _) rfl ?_
        refine ⟨⟨_, rfl⟩, .inr ⟨_, ?_, hJx3⟩⟩
        rw [← LL.out, List.map_append]
        exact ⟨Tok.num (pre.length + 1) (Tok.spF s (f - 1) e), by simp⟩
    · have hse' : ¬ (Tok.sk s false p : Int) < (Tok.sk s true (Tok.sk s false p) : Int) := by
        have := mt (Tok.sp_lt hp).1 hlt
        omega
      rw [Tok.sp_end s f p hp hlt, Tok.num, List.append_nil] at hl
      have LL := Lib.hid hl
      clear hl hll hsi hnum hj hg hb
      gi_wp2_with (fail)
      go_end0
      exact ⟨⟨_, rfl⟩, .inl ⟨pre, LL.out, JJ.out⟩⟩

theorem zip2 (T : Array Value) (i j : Nat) (x y : Value) : (#[i, j].zip #[x, y]).foldl (fun t (p : Nat × Value) => t.setIfInBounds p.1 p.2) T = (T.setIfInBounds i x).setIfInBounds j y := by
  simp

/-- token's each hands out a value that gives the words, one by one -/
theorem each_stops (s : ByteArray) (hs : s.size ≤ 100000) (m Bn : Nat) (w0 w1 : World) (hT : Tables w0) (hb : Below w0.heap.size w0 w1) (hBn : w1.heap[Bn]? = some (Obj.cells #[.string s] 9 (0, 0))) :
    SeqStopsK Fence.wide m Tryd.prog 34 #[.pointer (some ⟨Bn, 0, none⟩)] (encW (s := s)) (KpT w0.heap.size) (fun ys => ys.map (·.1) = Tok.num 0 (Tok.spans s)) (fun pre => pre.map (·.1) <+: Tok.num 0 (Tok.spans s)) s.size w1 :=
  fun l J Jx W hW hJ _ hY h0 => each1_in s hs m l Bn w0 hT J Jx W ((hW.block Bn (Array.getElem?_eq_some_iff.1 hBn).1).trans hBn) (hb.trans (hW.mono hb.size)) hJ (fun pre x W1 h1 h2 _ => hY pre x W1 h1 h2) h0
theorem tokEach_is (s : ByteArray) (w : World) : Calls Tryd.prog 22 #[.string s] w fun e w' => e = .returned (.func (.func 34) #[] #[.pointer (some ⟨w.heap.size, 0, none⟩)]) ∧ w' = w.alloc (.cells #[.string s] 9) := by
  go_enter Tryd.func22, Tryd.ntmps22
  go_wp2
  go_ret
  exact ⟨rfl, rfl⟩
end Go.Proofs.YtldfomggeleolaaDoor
