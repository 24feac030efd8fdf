/- token's Mark. -/
import Derived.Test.YtldfomggeleolaaDoorTokLed
import Derived.Test.YtldfomggeleolaaDoorTokMark
import Derived.Test.YtldfomggeleolaaDoorOpenS
import Derived.Test.YtldfomggeleolaaDoorBld
import Derived.Test.YtldfomggeleolaaDoorTokRound
import Derived.Test.YtldfomggeleolaaDoorTokSpans
import Derived.Test.YtldfomggeleolaaDoorFoldTexts
import Derived.Maps.OwnSet
import Derived.Maps.OwnIn
import Derived.StringKeys
namespace Go.Proofs.YtldfomggeleolaaDoor
open Go Go.RowKit Go.Shelf
set_option linter.unusedVariables false
attribute [local go_sem] Oper.semAt_some

/-- is a word's term one of some? -/
def isOne (s : ByteArray) (l : List ByteArray) (x : Nat × Nat) : Bool := l.any fun t => decide (t.data.toList = (Tok.term s x).data.toList)
def keyW (t : ByteArray) : Lit := .string t.data.toList
def setW (l : List ByteArray) : DataW Unit := Maps.setOf (.agg []) (l.map keyW)
theorem setW_snoc (l : List ByteArray) (t : ByteArray) : setW (l ++ [t]) = (setW l).put (keyW t) (.agg []) := by
  unfold setW; rw [List.map_append, List.map_cons, List.map_nil, Maps.setOf_snoc]
theorem has_setW (l : List ByteArray) (t : ByteArray) : Maps.has (setW l) (keyW t) = l.any fun u => decide (u.data.toList = t.data.toList) := by
  unfold setW
  rw [Maps.has_setOf _ _ _ (fun y hy => by obtain ⟨_, _, rfl⟩ := List.mem_map.1 hy; trivial), List.any_map]
  congr 1
  funext u
  show (keyW u).sameKey (keyW t) = decide (u.data.toList = t.data.toList)
  by_cases e : u.data.toList = t.data.toList
  · have e2 : keyW u = keyW t := by unfold keyW; rw [e]
    rw [e2, WideAt.sameKey_self (by trivial), decide_eq_true e]
  · rw [Maps.sameKey_ne (show keyW u ≠ keyW t from fun h => e (Lit.string.inj h)), decide_eq_false e]
theorem strKeyed : Maps.Keyed Tryd.prog 9 := Maps.string_keyed Tryd.underlying9
theorem zeroUnit (w : World) : (zeroValue 50).run Tryd.prog w = .ok (.agg #[]) w := by kernel_rfl

/-- what stands in memory while a text is marked: its three texts, the set of words, and where that is told -/
structure MkW (w0 : World) (n : Nat) (s Bf Bh : ByteArray) (k : Nat) (D : DataW Unit) (W : World) : Prop where
  b0 : W.heap[n]? = some (Obj.cells #[.string s] 9 (0, 0))
  b1 : W.heap[n + 1]? = some (Obj.cells #[.string Bf] 9 (0, 0))
  b2 : W.heap[n + 2]? = some (Obj.cells #[.string Bh] 9 (0, 0))
  mp : W.ownsMap Tryd.prog 9 unitElem (n + 3) k D
  b4 : W.heap[n + 4]? = some (Obj.cells #[.map (some (n + 3))] 49 (0, 0))
  bel : Below n w0 W
theorem bld_at {B b : Nat} {l : List UInt8} {w : World} (h : Bld B b l w) : ∃ cs, w.heap[b]? = some (Obj.cells cs 54 (0, 0)) := by
  rcases h with ⟨_, v, hbk, _⟩ | ⟨_, v, hbk, _⟩ <;> exact ⟨_, hbk⟩
theorem KpT.set {n₀ b : Nat} {V : World} {i : Int} (v : Value) (h : Boxed V b 3 (.int .i64 i)) (hn : n₀ ≤ b) : KpT n₀ V (V.setCell ⟨b, 0, none⟩ v) := by
  have hg := grownBy_setCell' V b v
  have key : ∀ (k : Nat) (cs : Array Value) (t : TypeId) (m : Nat × Nat), t ≠ 3 → V.heap[k]? = some (Obj.cells cs t m) → (V.setCell ⟨b, 0, none⟩ v).heap[k]? = some (Obj.cells cs t m) := fun k cs t m ht hk =>
    (hg.block k (Array.getElem?_eq_some_iff.1 hk).1 (fun e => by
      cases e
      rw [show V.heap[b]? = _ from h] at hk
      cases hk
      exact ht rfl)).trans hk
  exact ⟨(Below.refl _ V).setCell (p := ⟨b, 0, none⟩) hn v, fun k cs m hk _ => key k cs _ m (by decide) hk, fun k cs m hk => key k cs _ m (by decide) hk⟩
theorem KpT.others {n₀ N : Nat} {l : List UInt8} {V V' : World} (hB : Bld N N l V) (h : Lib.OthersKept 5 (some N) V V') (hb : Below N V V') (hn : n₀ ≤ N) : KpT n₀ V V' := by
  obtain ⟨cs0, h0⟩ := bld_at hB
  have key : ∀ (k : Nat) (cs : Array Value) (t : TypeId) (m : Nat × Nat), t ≠ 54 → t ≠ 5 → V.heap[k]? = some (Obj.cells cs t m) → V'.heap[k]? = some (Obj.cells cs t m) := fun k cs t m h1 h2 hk =>
    h k _ hk (fun e => by cases e; rw [h0] at hk; cases hk; exact h1 rfl) (fun c fz e => by cases e; exact h2 rfl)
  exact ⟨hb.mono hn, fun k cs m hk _ => key k cs _ m (by decide) (by decide) hk, fun k cs m hk => key k cs _ m (by decide) (by decide) hk⟩
theorem keepsFrom_others {n₀ N : Nat} {V V' : World} (h : Lib.OthersKept 5 (some N) V V') (hz : V.heap.size ≤ V'.heap.size) (hn : N < n₀) : KeepsFrom n₀ V V' :=
  ⟨hz, fun k o hk ho hc => h k o ho (fun e => by cases e; omega) (fun c fz e => by rw [e] at hc; cases hc)⟩
def stW (s : ByteArray) (ws : List ByteArray) (Bf Bh : ByteArray) (pre : List (Wd s)) : Nat × List UInt8 := (pre.map (·.1.2)).foldl (Tok.stepM s (isOne s ws) Bf.data.toList Bh.data.toList) (0, [])
theorem stW_snoc (s : ByteArray) (ws : List ByteArray) (Bf Bh : ByteArray) (pre : List (Wd s)) (x : Wd s) : stW s ws Bf Bh (pre ++ [x]) = Tok.stepM s (isOne s ws) Bf.data.toList Bh.data.toList (stW s ws Bf Bh pre) x.1.2 := by
  unfold stW; rw [List.map_append, List.foldl_append]; rfl
theorem stW_len (s : ByteArray) (ws : List ByteArray) (Bf Bh : ByteArray) (hBf : Bf.size ≤ 20) (hBh : Bh.size ≤ 20) (pre : List (Wd s)) : (stW s ws Bf Bh pre).1 ≤ s.size ∧ (stW s ws Bf Bh pre).2.length ≤ pre.length * (2 * s.size + 40) := by
  have h := Tok.step_len s (isOne s ws) Bf.data.toList Bh.data.toList (by rw [Array.length_toList]; exact hBf) (by rw [Array.length_toList]; exact hBh) (pre.map (·.1.2)) (0, []) (fun y hy => by obtain ⟨z, _, rfl⟩ := List.mem_map.1 hy; exact ⟨z.2.2.1, z.2.2.2⟩) (Nat.zero_le _)
  rw [List.length_map] at h
  exact ⟨h.1, by have h2 := h.2; simp only [List.length_nil, Nat.zero_add] at h2; exact h2⟩
def MarkI (w0 : World) (s : ByteArray) (ws : List ByteArray) (Bf Bh : ByteArray) (N : Nat) (pre : List (Wd s)) (V : World) : Prop :=
  Boxed V (N + 1) 3 (.int .i64 ((stW s ws Bf Bh pre).1 : Int)) ∧ Bld N N (stW s ws Bf Bh pre).2 V ∧ MkW w0 w0.heap.size s Bf Bh ws.length (setW ws) V
theorem MkW.below {w0 : World} {n k N : Nat} {s Bf Bh : ByteArray} {D : DataW Unit} {V V' : World} (m : MkW w0 n s Bf Bh k D V) (hN : n + 4 < N) (hb : Below N V V') : MkW w0 n s Bf Bh k D V' := by
  obtain ⟨es, clock, h1, h2⟩ := m.mp
  exact ⟨(hb.block _ (by omega)).trans m.b0, (hb.block _ (by omega)).trans m.b1, (hb.block _ (by omega)).trans m.b2, ⟨es, clock, (hb.block _ (by omega)).trans h1, h2⟩, (hb.block _ (by omega)).trans m.b4, m.bel.trans (hb.mono (by omega))⟩
theorem markI_own (w0 : World) (s : ByteArray) (ws : List ByteArray) (Bf Bh : ByteArray) (N : Nat) (hN : w0.heap.size + 4 < N) : OwnFrom (N + 3) (MarkI w0 s ws Bf Bh N) := by
  rintro pre A B row ⟨h1, h2, h3⟩ hg hr
  refine ⟨keptCells h1 hg (fun r e => (hr r e).2), bld_kept h2 hg (fun r e => ?_), ?_⟩
  · obtain ⟨_, o, h4, h5⟩ := hr r e
    exact ⟨o, h4, fun cs t m e => by rw [e] at h5; cases h5⟩
  · exact h3.below (N := N) hN ⟨hg.os, hg.tape, hg.output, hg.size, fun k hk => by
      by_cases hl : k < A.heap.size
      · exact hg.block k hl (fun e => by have := (hr k e.symm).1; omega)
      · exact absurd (show k < A.heap.size from by have := (Array.getElem?_eq_some_iff.1 h1).1; omega) hl⟩
set_option maxHeartbeats 4000000 in
set_option maxRecDepth 100000 in
theorem tokMark_is (s : ByteArray) (p : Option Addr) (c : Nat) (ws : List ByteArray) (Bf Bh : ByteArray) (w : World) (hs : s.size ≤ 10000) (hl : LiesS w p ws) (hwl : ws.length ≤ 20) (hwz : ∀ i, i < ws.length → (ws.getD i ByteArray.empty).size ≤ maxLen)
    (hBf : Bf.size ≤ 20) (hBh : Bh.size ≤ 20) (hT : Tables w) :
    Calls Tryd.prog 18 #[.string s, .slice p ws.length c, .string Bf, .string Bh] w fun e w' => e = .returned (.string ⟨(Tok.marked s (isOne s ws) Bf.data.toList Bh.data.toList).toArray⟩) ∧ Below w.heap.size w w' := by
  have HT := Lib.hid hT; have HL := Lib.hid hl; have HZ := Lib.hid hwz
  have hsi := (Tok.sp_in s).1
  clear hT hl hwz
  have hmm := @run_makeMap Tryd.prog
  refine (callsIn_wide (n := 3)).1 ?_
  refine callsIn_of_wp_marks Tryd.func18 rfl trivial ?_ rfl
  simp only [Tryd.ntmps18, List.size_toArray, List.length_cons, List.length_nil, Nat.reduceAdd, Nat.reduceSub, Array.replicate_succ, Array.replicate_zero, List.push_toArray, List.append_toArray, List.nil_append, List.cons_append]
  refine wpIn_wide.2 ?_
  go_wp2
  have M0 : MkW w w.heap.size s Bf Bh 0 (setW []) (((((w.alloc (.cells #[.string s] 9)).alloc (.cells #[.string Bf] 9)).alloc (.cells #[.string Bh] 9)).alloc (.map #[] 0)).alloc (.cells #[.map (some (w.heap.size + 1 + 1 + 1))] 49)) := by
    have g0 := heap_alloc_new w (.cells #[.string s] 9)
    have g1 := heap_alloc_new (w.alloc (.cells #[.string s] 9)) (.cells #[.string Bf] 9)
    have g2 := heap_alloc_new ((w.alloc (.cells #[.string s] 9)).alloc (.cells #[.string Bf] 9)) (.cells #[.string Bh] 9)
    have g4 := heap_alloc_new ((((w.alloc (.cells #[.string s] 9)).alloc (.cells #[.string Bf] 9)).alloc (.cells #[.string Bh] 9)).alloc (.map #[] 0)) (.cells #[.map (some (w.heap.size + 1 + 1 + 1))] 49)
    have g3 : ((((w.alloc (.cells #[.string s] 9)).alloc (.cells #[.string Bf] 9)).alloc (.cells #[.string Bh] 9)).alloc (.map #[] 0)).ownsMap Tryd.prog 9 (unitElem (H := Unit)) (((w.alloc (.cells #[.string s] 9)).alloc (.cells #[.string Bf] 9)).alloc (.cells #[.string Bh] 9)).heap.size 0 (.map []) := World.ownsMap_made _ _ _ _
    simp only [World.size_alloc] at g1 g2 g3 g4
    have up : ∀ (W : World) (o : Obj) (k : Nat) (x : Obj), W.heap[k]? = some x → (W.alloc o).heap[k]? = some x := fun W o k x h => (Below.heap_alloc W o k (Array.getElem?_eq_some_iff.1 h).1).trans h
    exact ⟨up _ _ _ _ (up _ _ _ _ (up _ _ _ _ (up _ _ _ _ g0))), up _ _ _ _ (up _ _ _ _ (up _ _ _ _ g1)), up _ _ _ _ (up _ _ _ _ g2), g3.alloc _, g4,
      (((((Below.refl _ w).alloc (Nat.le_refl _) _).alloc (by simp) _).alloc (by simp; omega) _).alloc (by simp; omega) _).alloc (by simp; omega) _⟩
  simp only [Nat.add_assoc, Nat.reduceAdd] at M0 ⊢
  generalize ((((w.alloc (.cells #[.string s] 9)).alloc (.cells #[.string Bf] 9)).alloc (.cells #[.string Bh] 9)).alloc (.map #[] 0)).alloc (.cells #[.map (some (w.heap.size + 3))] 49) = W5 at M0 ⊢
  have MM := Lib.hid M0
  clear M0
  go_loopw [22] (fun i wr => ∃ k : Nat, i = .int .i64 k ∧ k ≤ ws.length ∧ MkW w w.heap.size s Bf Bh k (setW (ws.take k)) wr) (fun i _ => ws.length - (intOf i).toNat)
  case atStart => exact ⟨0, rfl, Nat.zero_le _, MM.out⟩
  case round =>
    obtain ⟨k, rfl, hk, hm⟩ := hrel
    have M := Lib.hid hm
    by_cases hlt : k < ws.length
    · have h6 : (k : Int) < ws.length := by omega
      obtain ⟨b, o, rfl, hbb, hcell⟩ := HL.out.at (by omega)
      have hc := (hm.bel.cell (p := ⟨b, o + k, none⟩) (by exact hbb)).trans (hcell k hlt)
      have c4 := (cell_of_row wr (w.heap.size + 4) 0 _ _ _ hm.b4).trans (show _ = some (Value.map (some (w.heap.size + 3))) from rfl)
      have hkey : keyOf Tryd.prog 9 (.string (ws.getD k ByteArray.empty)) = some (keyW (ws.getD k ByteArray.empty)) := WideMaps.keyOf_string_mk Tryd.underlying9 (HZ.out k hlt)
      have hown := hm.mp
      have hsn := setW_snoc (ws.take k) (ws.getD k ByteArray.empty)
      have htk : ws.take k ++ [ws.getD k ByteArray.empty] = ws.take (k + 1) := by
        rw [List.take_add_one]; simp [List.getD, List.getElem?_eq_getElem hlt]
      rw [htk] at hsn
      have SN := Lib.hid hsn
      clear hsn htk hm hcell
      generalize ws.getD k ByteArray.empty = tx at hc hkey SN
      generalize setW (ws.take k) = D at hown SN M
      go_wp2_with (first | (at_mapUpdate; refine wpList_mapUpdate_own _ rfl _ _ _ 49 rfl 9 50 strKeyed Tryd.underlying49 (unitElem (H := Unit)) (w.heap.size + 3) k D rfl hown (by unfold maxLen; omega) _ _ _ rfl rfl hkey _ [] unitElem_mk ?_; intro w1 hown1 hgrow1) | go_in)
      have hne : ∀ j, j ≠ w.heap.size + 3 → some j ≠ some (w.heap.size + 3) := fun j h e => h (Option.some.inj e)
      have M1 : MkW w w.heap.size s Bf Bh (k + 1) (setW (ws.take (k + 1))) w1 := by
        rw [SN.out]
        have m := M.out
        exact ⟨(hgrow1.block _ (Array.getElem?_eq_some_iff.1 m.b0).1 (hne _ (by omega))).trans m.b0, (hgrow1.block _ (Array.getElem?_eq_some_iff.1 m.b1).1 (hne _ (by omega))).trans m.b1, (hgrow1.block _ (Array.getElem?_eq_some_iff.1 m.b2).1 (hne _ (by omega))).trans m.b2, hown1,
          (hgrow1.block _ (Array.getElem?_eq_some_iff.1 m.b4).1 (hne _ (by omega))).trans m.b4, m.bel.grown hgrow1 m.bel.size (fun j hj => by cases hj; omega)⟩
      go_roundw
      case rel => exact ⟨k + 1, by go_num, by omega, M1⟩
      case measure => simp [intOf]; omega
    · have h6 : ¬ (k : Int) < ws.length := by omega
      obtain rfl : k = ws.length := by omega
      rw [List.take_of_length_le (Nat.le_refl _)] at M
      clear hm
      have c0 := (cell_of_row wr w.heap.size 0 _ _ _ M.out.b0).trans (show _ = some (Value.string s) from rfl)
      have c1 := cell_alloc (.cells #[.int .i64 0] 3) (cell_alloc (.cells #[.pointer none, .slice none 0 0] 54) c0)
      go_wp2_with fail
      refine (tokEach_is s _).mono ?_
      rintro e w1 ⟨rfl, rfl⟩
      obtain ⟨N, hN⟩ : ∃ N, N = wr.heap.size := ⟨_, rfl⟩
      have hnN : w.heap.size + 4 < N := by rw [hN]; exact (Array.getElem?_eq_some_iff.1 M.out.b4).1
      have up : ∀ (W : World) (o : Obj) (k : Nat) (x : Obj), W.heap[k]? = some x → (W.alloc o).heap[k]? = some x := fun W o k x h => (Below.heap_alloc W o k (Array.getElem?_eq_some_iff.1 h).1).trans h
      have mU : ∀ (W : World) (o : Obj), MkW w w.heap.size s Bf Bh ws.length (setW ws) W → MkW w w.heap.size s Bf Bh ws.length (setW ws) (W.alloc o) := fun W o m => ⟨up _ _ _ _ m.b0, up _ _ _ _ m.b1, up _ _ _ _ m.b2, m.mp.alloc _, up _ _ _ _ m.b4, m.bel.alloc m.bel.size _⟩
      have MZ := mU _ (.cells #[.string s] 9) (mU _ (.cells #[.int .i64 0] 3) (mU wr (.cells #[.pointer none, .slice none 0 0] 54) M.out))
      have BZ := bld_kept (bld_kept (bld_new wr) (World.grownBy_alloc _ (.cells #[.int .i64 0] 3) none) (fun r e => by cases e)) (World.grownBy_alloc _ (.cells #[.string s] 9) none) (fun r e => by cases e)
      have TZ := (Boxed.new (wr.alloc (.cells #[.pointer none, .slice none 0 0] 54)) 3 (.int .i64 0)).alloc (.cells #[.string s] 9)
      have SZ := heap_alloc_new ((wr.alloc (.cells #[.pointer none, .slice none 0 0] 54)).alloc (.cells #[.int .i64 0] 3)) (.cells #[.string s] 9)
      simp only [World.size_alloc, ← hN, Nat.add_assoc, Nat.reduceAdd] at TZ SZ BZ ⊢
      go_wp2_with fail
      obtain ⟨W0, hW0⟩ : ∃ W0, ((wr.alloc (.cells #[.pointer none, .slice none 0 0] 54)).alloc (.cells #[.int .i64 0] 3)).alloc (.cells #[.string s] 9) = W0 := ⟨_, rfl⟩
      have hz0 : W0.heap.size = N + 3 := by rw [← hW0, hN]; simp
      rw [hW0] at TZ SZ BZ MZ ⊢
      clear hW0 M c0 c1 up mU h6 hlt hk hN
      have hbw : Below w.heap.size w W0 := MZ.bel
      refine (wpIn_wide (n := 3)).1 ?_
      refine led_loop (F := Fence.wide) rfl (by omega) (gf := 34) (lb := #[.pointer (some ⟨N + 2, 0, none⟩)]) rfl trivial (enters_of Tryd.func34 (by kernel_rfl) rfl)
        (each_led s (by omega) _ (N + 2) w W0 HT.out hbw SZ) (fun h k => KpT.trans h k) (fun W l o o' h1 h2 h3 h4 => KpT.put hbw.size W l o o' h1 h2 h3 h4) (fun _ => rfl)
        (I := MarkI w s ws Bf Bh N) (Ix := fun _ _ _ => False) (by rw [hz0]; exact markI_own w s ws Bf Bh N hnN) (fun _ _ _ _ _ h _ _ => h.elim) ⟨TZ, BZ, MZ⟩
        (Ax := fun (x : Wd s) a' W => ∃ g, SpAt W g x.1.2 ∧ a' = { tmps := #[.string s, .slice p ws.length c, .string Bf, .string Bh, .pointer (some ⟨w.heap.size, 0, none⟩), undef, .pointer (some ⟨w.heap.size + 1, 0, none⟩), .pointer (some ⟨w.heap.size + 2, 0, none⟩), .string ⟨#[]⟩, .pointer (some ⟨w.heap.size + 4, 0, none⟩), undef, u11, .pointer (some ⟨N, 0, none⟩), .pointer (some ⟨N + 1, 0, none⟩), undef, .pointer (some ⟨g, 0, none⟩), undef, undef, undef, .map (some (w.heap.size + 3)), .slice p ws.length c, .int .i64 (ws.length : Int), .int .i64 (ws.length : Int), .bool false, u24, u25, u26, u27, u28, u29, .string s, .func (.func 34) #[] #[.pointer (some ⟨N + 2, 0, none⟩)], .int .i64 (x.1.1 : Int), .agg #[.int .i64 (x.1.2.1 : Int), .int .i64 (x.1.2.2 : Int)], undef, undef, undef, undef, undef, undef, undef, undef, undef, undef, undef, undef, undef, undef, undef, undef, undef, undef, undef, undef, undef, undef, undef, undef, undef, undef, undef, undef, undef, undef, undef, undef, undef], defers := [] })
        (fun x a' => Own.from (fun _ A B row hs hg hr => by obtain ⟨g, h2, h3⟩ := hs; exact ⟨g, keptCells h2 hg hr, h3⟩) _)
        ?assign ?body ?done ?stop
      case assign =>
        rintro l pre x V K ⟨i1, i2, i3⟩ hR hK
        dsimp only [encW, spv]
        rw [zip2]
        simp only [List.setIfInBounds_toArray, List.set_cons_succ, List.set_cons_zero]
        gi_wp2
        have hk0 : Below V.heap.size V (V.alloc (.cells #[.int .i64 (x.1.2.1 : Int), .int .i64 (x.1.2.2 : Int)] 31)) := (Below.refl _ V).alloc (Nat.le_refl _) _
        exact hK _ _ ((KeepsOthers.alloc _ _).from _) (KpT.of_below hk0 i3.bel.size) ⟨i1.alloc _, bld_kept i2 (World.grownBy_alloc _ _ none) (fun r e => by cases e), i3.below (N := N) hnN (hk0.mono (by have := (Array.getElem?_eq_some_iff.1 i1).1; omega))⟩ ⟨V.heap.size, heap_alloc_new V _, rfl⟩
      case body =>
        rintro l pre x a' V hI hR ⟨g, hsp, rfl⟩
        have II := Lib.hid hI; have RR := Lib.hid hR; have SP := Lib.hid hsp
        obtain ⟨i1, i2, i3⟩ := hI
        have ca := (cell_of_row V w.heap.size 0 _ _ _ i3.b0).trans (show _ = some (Value.string s) from rfl)
        have c0 := (cell_of_row V g 0 _ _ _ hsp).trans (show _ = some (Value.int .i64 (x.1.2.1 : Int)) from rfl)
        have c1 := (cell_of_row V g 1 _ _ _ hsp).trans (show _ = some (Value.int .i64 (x.1.2.2 : Int)) from rfl)
        have hx1 : (x.1.2.1 : Int) ≤ (x.1.2.2 : Int) := by have := x.2.2.1; omega
        have hx2 : (x.1.2.2 : Int) ≤ (s.size : Int) := by have := x.2.2.2; omega
        clear i1 i2 i3 hR hsp
        gi_wp2_with (fail)
        rename_i Q1 K1 hK1
        have hBV : Below V.heap.size V V.drew := ⟨rfl, rfl, rfl, Nat.le_refl _, fun _ _ => rfl⟩
        have hnv : N ≤ V.heap.size := by have := (Array.getElem?_eq_some_iff.1 II.out.1).1; omega
        have MS : ∀ V', Below V.heap.size V V' → MkW w w.heap.size s Bf Bh ws.length (setW ws) V' := fun V' h => II.out.2.2.below (N := N) hnN (h.mono hnv)
        have hes : (s.extract x.1.2.1 x.1.2.2).size ≤ 10000 := by rw [ByteArray.size_extract]; omega
        have FT : ∀ V', Below V.heap.size V V' → Calls Tryd.prog 20 #[.string (s.extract x.1.2.1 x.1.2.2)] V' (RetS V' (Tok.term s x.1.2)) := fun V' h => foldText_is _ V' (by omega) (HT.out.below (MS V' h).bel).shapes (HT.out.below (MS V' h).bel).great
        have hhas : Maps.has (setW ws) (keyW (Tok.term s x.1.2)) = isOne s ws x.1.2 := has_setW ws _
        have htl : (Tok.term s x.1.2).size ≤ maxLen := by
          have h1 := Utf.ft_len (s.extract x.1.2.1 x.1.2.2) (s.extract x.1.2.1 x.1.2.2).size 0 (Nat.zero_le _)
          have h2 : (Tok.term s x.1.2).size = (Utf.ft (s.extract x.1.2.1 x.1.2.2) (s.extract x.1.2.1 x.1.2.2).size 0).length := by unfold Tok.term; show Array.size _ = _; simp
          unfold maxLen
          omega
        have hkey : keyOf Tryd.prog 9 (.string (Tok.term s x.1.2)) = some (keyW (Tok.term s x.1.2)) := WideMaps.keyOf_string_mk Tryd.underlying9 htl
        have KK : ∀ (g' : Nat) (V2 : World), Below V.heap.size V V2 → K1 { tmps := #[Value.string s, Value.slice p ws.length c, Value.string Bf, Value.string Bh, .pointer (some ⟨w.heap.size, 0, none⟩), undef, .pointer (some ⟨w.heap.size + 1, 0, none⟩), .pointer (some ⟨w.heap.size + 2, 0, none⟩), .string ⟨#[]⟩, .pointer (some ⟨w.heap.size + 4, 0, none⟩), undef, u11, .pointer (some ⟨N, 0, none⟩), .pointer (some ⟨N + 1, 0, none⟩), undef, .pointer (some ⟨g, 0, none⟩), .string (s.extract x.1.2.1 x.1.2.2), .pointer (some ⟨g', 0, none⟩), .bool (isOne s ws x.1.2), .map (some (w.heap.size + 3)), .slice p ws.length c, .int .i64 (ws.length : Int), .int .i64 (ws.length : Int), .bool false, u24, u25, u26, u27, u28, u29, .string s, .func (.func 34) #[] #[.pointer (some ⟨N + 2, 0, none⟩)], .int .i64 (x.1.1 : Int), .agg #[.int .i64 (x.1.2.1 : Int), .int .i64 (x.1.2.2 : Int)], .string s, .pointer (some ⟨g, 0, none⟩), .int .i64 (x.1.2.1 : Int), .pointer (some ⟨g, 1, none⟩), .int .i64 (x.1.2.2 : Int), .string (s.extract x.1.2.1 x.1.2.2), .tuple #[.agg #[], .bool (isOne s ws x.1.2)], .map (some (w.heap.size + 3)), .string (s.extract x.1.2.1 x.1.2.2), .string (Tok.term s x.1.2), .tuple #[.agg #[], .bool (isOne s ws x.1.2)], .agg #[], .bool (isOne s ws x.1.2), undef, undef, undef, undef, undef, undef, undef, undef, undef, undef, undef, undef, undef, undef, undef, undef, undef, undef, undef, undef], defers := [] } V2 := by
          intro g' V2 hb2
          refine hK1 _ _ ?_
          clear hK1 FT hhas hkey MS htl hBV ca c0 c1
          have M2 : MkW w w.heap.size s Bf Bh ws.length (setW ws) V2 := II.out.2.2.below (N := N) hnN (hb2.mono hnv)
          have X2 : Boxed V2 (N + 1) 3 (.int .i64 ((stW s ws Bf Bh pre).1 : Int)) := (hb2.block _ (Array.getElem?_eq_some_iff.1 II.out.1).1).trans II.out.1
          have D2 : Bld N N (stW s ws Bf Bh pre).2 V2 := bld_kept II.out.2.1 (below_grown hb2) (fun r e => by cases e)
          have S2 : SpAt V2 g x.1.2 := (hb2.block _ (Array.getElem?_eq_some_iff.1 SP.out).1).trans SP.out
          have hk2 : KeepsFrom W0.heap.size V V2 := (KeepsOthers.of_grownBy (below_grown hb2) (fun j o e => by cases e)).from _
          have hp2 : KpT w.heap.size V V2 := KpT.of_below hb2 II.out.2.2.bel.size
          have hn2 : N ≤ V2.heap.size := Nat.le_trans hnv hb2.size
          have hsn := stW_snoc s ws Bf Bh pre x
          have hto : (stW s ws Bf Bh pre).1 ≤ x.1.2.1 := Tok.told_next s (isOne s ws) Bf.data.toList Bh.data.toList (pre.map (fun y : Wd s => y.1.2)) x.1.2 (next_spans RR.out)
          have hpl : pre.length + 1 ≤ s.size := by
            have := RR.out.length_le
            rw [List.length_append, List.length_map, Tok.num_len, List.length_singleton] at this
            omega
          have hbl : (stW s ws Bf Bh pre).2.length ≤ 10000 * 20040 := Nat.le_trans (stW_len s ws Bf Bh hBf hBh pre).2 (Nat.mul_le_mul (by omega) (by omega))
          have hst : stW s ws Bf Bh pre = ((stW s ws Bf Bh pre).1, (stW s ws Bf Bh pre).2) := rfl
          by_cases hone : isOne s ws x.1.2 = true
          · have hsn2 : stW s ws Bf Bh (pre ++ [x]) = (x.1.2.2, (stW s ws Bf Bh pre).2 ++ (Tok.by_ s (stW s ws Bf Bh pre).1 x.1.2.1 ++ Bf.data.toList ++ Tok.by_ s x.1.2.1 x.1.2.2 ++ Bh.data.toList)) := by
              rw [hsn]; exact if_pos hone
            rw [hone]
            clear hsn hst
            generalize (stW s ws Bf Bh pre).1 = t0 at hto hsn2 X2 ⊢
            generalize (stW s ws Bf Bh pre).2 = b0 at hbl hsn2 D2 ⊢
            have hx3 : x.1.2.1 ≤ s.size := by omega
            have hz1 : (s.extract t0 x.1.2.1).size ≤ 10000 := by rw [ByteArray.size_extract]; omega
            gi_wp2_with (fail)
            rename_i K2 hK2
            have CS : V2.cell? ⟨w.heap.size, 0, none⟩ = some (.string s) ∧ V2.cell? ⟨w.heap.size + 1, 0, none⟩ = some (.string Bf) ∧ V2.cell? ⟨w.heap.size + 2, 0, none⟩ = some (.string Bh) ∧ V2.cell? ⟨N + 1, 0, none⟩ = some (.int .i64 (t0 : Int)) ∧ V2.cell? ⟨g, 0, none⟩ = some (.int .i64 (x.1.2.1 : Int)) :=
              ⟨(cell_of_row _ _ 0 _ _ _ M2.b0).trans rfl, (cell_of_row _ _ 0 _ _ _ M2.b1).trans rfl, (cell_of_row _ _ 0 _ _ _ M2.b2).trans rfl, X2.cell, (cell_of_row _ _ 0 _ _ _ S2).trans rfl⟩
            refine rg_round l _ (by kernel_rfl) rfl (by kernel_rfl) (S := fun V' => V'.cell? ⟨w.heap.size, 0, none⟩ = some (.string s) ∧ V'.cell? ⟨w.heap.size + 1, 0, none⟩ = some (.string Bf) ∧ V'.cell? ⟨w.heap.size + 2, 0, none⟩ = some (.string Bh) ∧ V'.cell? ⟨N + 1, 0, none⟩ = some (.int .i64 (t0 : Int)) ∧ V'.cell? ⟨g, 0, none⟩ = some (.int .i64 (x.1.2.1 : Int))) ?_
            refine rgd_load 0 (some 48) rfl rfl (by kernel_rfl) (by kernel_rfl) (by kernel_rfl) (fun _ _ _ _ h => h) (by kernel_rfl) _ _ rfl Tryd.underlying9 rfl ⟨w.heap.size, 0, none⟩ (.string s) (by kernel_rfl) (fun V' h => h.1) CS ?_
            refine rgd_load 1 (some 49) rfl rfl (by kernel_rfl) (by kernel_rfl) (by kernel_rfl) (fun _ _ _ _ h => h) (by kernel_rfl) _ _ rfl Tryd.underlying3 rfl ⟨N + 1, 0, none⟩ (.int .i64 (t0 : Int)) (by kernel_rfl) (fun V' h => h.2.2.2.1) CS ?_
            refine rgd_pure 2 (some 50) rfl rfl (.pointer (some ⟨g, 0, none⟩)) (by kernel_rfl) (by kernel_rfl) (by kernel_rfl) (fun _ _ _ _ h => h) (by kernel_rfl) (exec_fieldAt _ _ _ rfl (.pointer (some ⟨g, 0, none⟩)) (by kernel_rfl) (.pointer (some ⟨g, 0, none⟩)) (fun w => by kernel_rfl)) CS ?_
            refine rgd_load 3 (some 51) rfl rfl (by kernel_rfl) (by kernel_rfl) (by kernel_rfl) (fun _ _ _ _ h => h) (by kernel_rfl) _ _ rfl Tryd.underlying3 rfl ⟨g, 0, none⟩ (.int .i64 (x.1.2.1 : Int)) (by kernel_rfl) (fun V' h => h.2.2.2.2) CS ?_
            refine rgd_pure 4 (some 52) rfl rfl (.string (s.extract t0 x.1.2.1)) (by kernel_rfl) (by kernel_rfl) (by kernel_rfl) (fun _ _ _ _ h => h) (by kernel_rfl) (exec_cutMid _ _ _ _ rfl Tryd.underlying9 s t0 x.1.2.1 (by kernel_rfl) (by kernel_rfl) (by kernel_rfl) hto hx3) CS ?_
            refine rgd_load 5 (some 53) rfl rfl (by kernel_rfl) (by kernel_rfl) (by kernel_rfl) (fun _ _ _ _ h => h) (by kernel_rfl) _ _ rfl Tryd.underlying9 rfl ⟨w.heap.size + 1, 0, none⟩ (.string Bf) (by kernel_rfl) (fun V' h => h.2.1) CS ?_
            refine rgd_pure 6 (some 54) rfl rfl (.string (s.extract t0 x.1.2.1 ++ Bf)) (by kernel_rfl) (by kernel_rfl) (by kernel_rfl) (fun _ _ _ _ h => h) (by kernel_rfl) (exec_addS _ _ _ _ rfl (s.extract t0 x.1.2.1) Bf (by kernel_rfl) (by kernel_rfl) (by omega)) CS ?_
            refine rgd_pure 7 (some 55) rfl rfl (.string (s.extract x.1.2.1 x.1.2.2)) (by kernel_rfl) (by kernel_rfl) (by kernel_rfl) (fun _ _ _ _ h => h) (by kernel_rfl) (exec_is _ (.inl rfl) _ (by kernel_rfl)) CS ?_
            refine rgd_pure 8 (some 56) rfl rfl (.string ((s.extract t0 x.1.2.1 ++ Bf) ++ s.extract x.1.2.1 x.1.2.2)) (by kernel_rfl) (by kernel_rfl) (by kernel_rfl) (fun _ _ _ _ h => h) (by kernel_rfl) (exec_addS _ _ _ _ rfl (s.extract t0 x.1.2.1 ++ Bf) (s.extract x.1.2.1 x.1.2.2) (by kernel_rfl) (by kernel_rfl) (by rw [ByteArray.size_append]; omega)) CS ?_
            refine rgd_load 9 (some 57) rfl rfl (by kernel_rfl) (by kernel_rfl) (by kernel_rfl) (fun _ _ _ _ h => h) (by kernel_rfl) _ _ rfl Tryd.underlying9 rfl ⟨w.heap.size + 2, 0, none⟩ (.string Bh) (by kernel_rfl) (fun V' h => h.2.2.1) CS ?_
            refine rgd_pure 10 (some 58) rfl rfl (.string (((s.extract t0 x.1.2.1 ++ Bf) ++ s.extract x.1.2.1 x.1.2.2) ++ Bh)) (by kernel_rfl) (by kernel_rfl) (by kernel_rfl) (fun _ _ _ _ h => h) (by kernel_rfl) (exec_addS _ _ _ _ rfl ((s.extract t0 x.1.2.1 ++ Bf) ++ s.extract x.1.2.1 x.1.2.2) Bh (by kernel_rfl) (by kernel_rfl) (by rw [ByteArray.size_append, ByteArray.size_append]; omega)) CS ?_
            refine rgd_call 11 (some 59) (by kernel_rfl) rfl rfl (by kernel_rfl) 26 #[.pointer (some ⟨N, 0, none⟩), .string (((s.extract t0 x.1.2.1 ++ Bf) ++ s.extract x.1.2.1 x.1.2.2) ++ Bh)] (by kernel_rfl) (bldWrite_is N N b0 (((s.extract t0 x.1.2.1 ++ Bf) ++ s.extract x.1.2.1 x.1.2.2) ++ Bh) V2.drew D2 (by rw [ByteArray.size_append, ByteArray.size_append, ByteArray.size_append]; omega) hn2) ?_
            rintro e V3 ⟨rfl, hd3, hb3, ho3⟩
            replace hb3 : Below N V2 V3 := ⟨hb3.os, hb3.tape, hb3.output, hb3.size, hb3.block⟩
            replace ho3 : Lib.OthersKept 5 (some N) V2 V3 := ho3
            have M3 := M2.below hnN hb3
            obtain ⟨cs0, hc0⟩ := bld_at D2
            have X3 : Boxed V3 (N + 1) 3 (.int .i64 (t0 : Int)) := ho3 _ _ X2 (fun e => by injection e with e; omega) (fun c fz e => by cases e)
            have S3 : SpAt V3 g x.1.2 := ho3 _ _ S2 (fun e => by injection e with e; subst e; rw [S2] at hc0; cases hc0) (fun c fz e => by cases e)
            have hp3 : KpT w.heap.size V2 V3 := KpT.others D2 ho3 hb3 (by omega)
            have hk3 : KeepsFrom W0.heap.size V2 V3 := keepsFrom_others ho3 hb3.size (by omega)
            have CS3 : V3.cell? ⟨w.heap.size, 0, none⟩ = some (.string s) ∧ V3.cell? ⟨w.heap.size + 1, 0, none⟩ = some (.string Bf) ∧ V3.cell? ⟨w.heap.size + 2, 0, none⟩ = some (.string Bh) ∧ V3.cell? ⟨N + 1, 0, none⟩ = some (.int .i64 (t0 : Int)) ∧ V3.cell? ⟨g, 0, none⟩ = some (.int .i64 (x.1.2.1 : Int)) :=
              ⟨(cell_of_row _ _ 0 _ _ _ M3.b0).trans rfl, (cell_of_row _ _ 0 _ _ _ M3.b1).trans rfl, (cell_of_row _ _ 0 _ _ _ M3.b2).trans rfl, X3.cell, (cell_of_row _ _ 0 _ _ _ S3).trans rfl⟩
            refine ⟨_, rfl, CS3, ?_⟩
            have KE : K2 { tmps := #[Value.string s, Value.slice p ws.length c, Value.string Bf, Value.string Bh, .pointer (some ⟨w.heap.size, 0, none⟩), undef, .pointer (some ⟨w.heap.size + 1, 0, none⟩), .pointer (some ⟨w.heap.size + 2, 0, none⟩), .string ⟨#[]⟩, .pointer (some ⟨w.heap.size + 4, 0, none⟩), undef, u11, .pointer (some ⟨N, 0, none⟩), .pointer (some ⟨N + 1, 0, none⟩), undef, .pointer (some ⟨g, 0, none⟩), .string (s.extract x.1.2.1 x.1.2.2), .pointer (some ⟨g', 0, none⟩), .bool true, .map (some (w.heap.size + 3)), .slice p ws.length c, .int .i64 (ws.length : Int), .int .i64 (ws.length : Int), .bool false, u24, u25, u26, u27, u28, u29, .string s, .func (.func 34) #[] #[.pointer (some ⟨N + 2, 0, none⟩)], .int .i64 (x.1.1 : Int), .agg #[.int .i64 (x.1.2.1 : Int), .int .i64 (x.1.2.2 : Int)], .string s, .pointer (some ⟨g, 0, none⟩), .int .i64 (x.1.2.1 : Int), .pointer (some ⟨g, 1, none⟩), .int .i64 (x.1.2.2 : Int), .string (s.extract x.1.2.1 x.1.2.2), .tuple #[.agg #[], .bool true], .map (some (w.heap.size + 3)), .string (s.extract x.1.2.1 x.1.2.2), .string (Tok.term s x.1.2), .tuple #[.agg #[], .bool true], .agg #[], .bool true, .bool true, .string s, .int .i64 (t0 : Int), .pointer (some ⟨g, 0, none⟩), .int .i64 (x.1.2.1 : Int), .string (s.extract t0 x.1.2.1), .string Bf, .string (s.extract t0 x.1.2.1 ++ Bf), .string (s.extract x.1.2.1 x.1.2.2), .string ((s.extract t0 x.1.2.1 ++ Bf) ++ s.extract x.1.2.1 x.1.2.2), .string Bh, .string (((s.extract t0 x.1.2.1 ++ Bf) ++ s.extract x.1.2.1 x.1.2.2) ++ Bh), .tuple #[.int .i64 ((((s.extract t0 x.1.2.1 ++ Bf) ++ s.extract x.1.2.1 x.1.2.2) ++ Bh).size : Int), .nilIface], undef, undef, undef, undef, undef, undef, undef], defers := [] } V3 := by
              refine hK2 _ _ ?_
              have c1 := (cell_of_row V3 g 1 _ _ _ S3).trans (show _ = some (Value.int .i64 (x.1.2.2 : Int)) from rfl)
              have c2 := X3.cell
              have f2 := X3.frozen
              have M3' := Lib.hid M3; have X3' := Lib.hid X3; have S3' := Lib.hid S3; have D3 := Lib.hid hd3
              clear hK2 CS CS3 M3 X3 S3 hd3 M2 X2 D2 S2
              gi_wp2_with (fail)
              have h4 := grownBy_setCell' V3 (N + 1) (.int .i64 (x.1.2.2 : Int))
              refine ⟨(hk2.trans hk3).trans ((KeepsOthers.setCell _ _ _).from _), (hp2.trans hp3).trans (KpT.set _ X3'.out (by omega)), ?_⟩
              unfold MarkI
              rw [hsn2]
              refine ⟨X3'.out.set _, ?_, M3'.out.below hnN ((Below.refl N V3).setCell (p := ⟨N + 1, 0, none⟩) (Nat.le_succ N) _)⟩
              have h5 := bld_far D3.out h4 X3'.out (by decide) (by decide)
              have h6 : ((((s.extract t0 x.1.2.1 ++ Bf) ++ s.extract x.1.2.1 x.1.2.2) ++ Bh)).data.toList = Tok.by_ s t0 x.1.2.1 ++ Bf.data.toList ++ Tok.by_ s x.1.2.1 x.1.2.2 ++ Bh.data.toList := by
                simp only [ByteArray.data_append, Array.toList_append]; rfl
              rw [h6] at h5
              exact h5
            exact wpAnyH_done (by kernel_rfl) (Eq.mp (by kernel_rfl) KE) _
          · have hsn2 : stW s ws Bf Bh (pre ++ [x]) = stW s ws Bf Bh pre := by
              rw [hsn]; exact if_neg hone
            rw [Bool.not_eq_true] at hone
            rw [hone]
            clear hsn hst
            gi_wp2_with (fail)
            refine ⟨hk2, hp2, ?_⟩
            unfold MarkI
            rw [hsn2]
            exact ⟨X2, D2, M2⟩
        refine rg_round l _ (by kernel_rfl) rfl (by kernel_rfl) (S := fun V' => Below V.heap.size V V') ?_
        refine rgd_load 0 (some 41) rfl rfl (by kernel_rfl) (by kernel_rfl) (by kernel_rfl) (fun _ _ _ _ h => h) (by kernel_rfl) _ _ rfl Tryd.underlying49 rfl ⟨w.heap.size + 4, 0, none⟩ (.map (some (w.heap.size + 3))) (by kernel_rfl) (fun V' h => (cell_of_row V' (w.heap.size + 4) 0 _ _ _ (MS V' h).b4).trans rfl) hBV ?_
        refine rgd_pure 1 (some 42) rfl rfl (.string (s.extract x.1.2.1 x.1.2.2)) (by kernel_rfl) (by kernel_rfl) (by kernel_rfl) (fun _ _ _ _ h => h) (by kernel_rfl) (exec_is _ (.inl rfl) _ (by kernel_rfl)) hBV ?_
        refine rgd_two2 2 7 (some 43) (some 17) (by kernel_rfl) rfl rfl (by kernel_rfl) 20 #[.string (s.extract x.1.2.1 x.1.2.2)] (by kernel_rfl) (FT _ hBV) rfl rfl (by kernel_rfl) (.pointer (some ⟨V.drew.heap.size, 0, none⟩)) _ (exec_unit rfl _) (hBV.alloc hBV.size _) ?_ ?_
        · rintro e V1 ⟨rfl, hb1⟩
          have HB := hBV.trans hb1
          refine ⟨_, rfl, HB, ?_⟩
          refine rgd_pureS 3 (some 44) rfl rfl (.tuple #[.agg #[], .bool (isOne s ws x.1.2)]) (by kernel_rfl) (by kernel_rfl) (by kernel_rfl) (fun _ _ _ _ h => h) (by kernel_rfl) (fun V' h => by rw [← hhas]; exact exec_look _ _ rfl strKeyed Tryd.underlying49 (zeroUnit V') (w.heap.size + 3) ws.length (setW ws) (by kernel_rfl) (MS V' h).mp _ _ (by kernel_rfl) hkey) HB ?_
          refine rgd_pure 4 (some 40) rfl rfl (.tuple #[.agg #[], .bool (isOne s ws x.1.2)]) (by kernel_rfl) (by kernel_rfl) (by kernel_rfl) (fun _ _ _ _ h => h) (by kernel_rfl) (exec_is _ (.inl rfl) _ (by kernel_rfl)) HB ?_
          refine rgd_pure 5 (some 45) rfl rfl (.agg #[]) (by kernel_rfl) (by kernel_rfl) (by kernel_rfl) (fun _ _ _ _ h => h) (by kernel_rfl) (exec_ext _ _ rfl #[.agg #[], .bool (isOne s ws x.1.2)] _ (by kernel_rfl) rfl) HB ?_
          refine rgd_pure 6 (some 46) rfl rfl (.bool (isOne s ws x.1.2)) (by kernel_rfl) (by kernel_rfl) (by kernel_rfl) (fun _ _ _ _ h => h) (by kernel_rfl) (exec_ext _ _ rfl #[.agg #[], .bool (isOne s ws x.1.2)] _ (by kernel_rfl) rfl) HB ?_
          have HB2 : Below V.heap.size V (V1.alloc (.cells #[] 50)) := HB.alloc HB.size _
          refine rgd_run 7 (some 17) (by kernel_rfl) rfl rfl (by kernel_rfl) (.pointer (some ⟨V1.heap.size, 0, none⟩)) _ (exec_unit rfl _) HB2 ?_
          refine rgd_do 8 none (by kernel_rfl) rfl rfl (by kernel_rfl) _ (exec_unitPut _ _ rfl ⟨V1.heap.size, 0, none⟩ (by kernel_rfl) (by kernel_rfl) _) HB2 ?_
          refine rgd_pure 9 (some 18) rfl rfl (.bool (isOne s ws x.1.2)) (by kernel_rfl) (by kernel_rfl) (by kernel_rfl) (fun _ _ _ _ h => h) (by kernel_rfl) (exec_is _ (.inr rfl) _ (by kernel_rfl)) HB2 ?_
          exact wpAnyH_done (by kernel_rfl) (Eq.mp (by kernel_rfl) (KK V1.heap.size _ HB2)) _
        · have HB0 : Below V.heap.size V (V.drew.alloc (.cells #[] 50)) := hBV.alloc hBV.size _
          refine rgd_call 2 (some 43) (by kernel_rfl) rfl rfl (by kernel_rfl) 20 #[.string (s.extract x.1.2.1 x.1.2.2)] (by kernel_rfl) (FT _ HB0) ?_
          rintro e V1 ⟨rfl, hb1⟩
          have HB : Below V.heap.size V V1 := HB0.trans (hb1.mono HB0.size)
          have HB2 := HB
          refine ⟨_, rfl, HB, ?_⟩
          refine rgd_pureS 3 (some 44) rfl rfl (.tuple #[.agg #[], .bool (isOne s ws x.1.2)]) (by kernel_rfl) (by kernel_rfl) (by kernel_rfl) (fun _ _ _ _ h => h) (by kernel_rfl) (fun V' h => by rw [← hhas]; exact exec_look _ _ rfl strKeyed Tryd.underlying49 (zeroUnit V') (w.heap.size + 3) ws.length (setW ws) (by kernel_rfl) (MS V' h).mp _ _ (by kernel_rfl) hkey) HB ?_
          refine rgd_pure 4 (some 40) rfl rfl (.tuple #[.agg #[], .bool (isOne s ws x.1.2)]) (by kernel_rfl) (by kernel_rfl) (by kernel_rfl) (fun _ _ _ _ h => h) (by kernel_rfl) (exec_is _ (.inl rfl) _ (by kernel_rfl)) HB ?_
          refine rgd_pure 5 (some 45) rfl rfl (.agg #[]) (by kernel_rfl) (by kernel_rfl) (by kernel_rfl) (fun _ _ _ _ h => h) (by kernel_rfl) (exec_ext _ _ rfl #[.agg #[], .bool (isOne s ws x.1.2)] _ (by kernel_rfl) rfl) HB ?_
          refine rgd_pure 6 (some 46) rfl rfl (.bool (isOne s ws x.1.2)) (by kernel_rfl) (by kernel_rfl) (by kernel_rfl) (fun _ _ _ _ h => h) (by kernel_rfl) (exec_ext _ _ rfl #[.agg #[], .bool (isOne s ws x.1.2)] _ (by kernel_rfl) rfl) HB ?_
          refine rgd_do 8 none (by kernel_rfl) rfl rfl (by kernel_rfl) _ (exec_unitPut _ _ rfl ⟨V.drew.heap.size, 0, none⟩ (by kernel_rfl) (by kernel_rfl) _) HB2 ?_
          refine rgd_pure 9 (some 18) rfl rfl (.bool (isOne s ws x.1.2)) (by kernel_rfl) (by kernel_rfl) (by kernel_rfl) (fun _ _ _ _ h => h) (by kernel_rfl) (exec_is _ (.inr rfl) _ (by kernel_rfl)) HB2 ?_
          exact wpAnyH_done (by kernel_rfl) (Eq.mp (by kernel_rfl) (KK V.drew.heap.size _ HB2)) _
      case done =>
        rintro D ys V hD hS hI hK
        obtain ⟨i1, i2, i3⟩ := hI
        have hmp : ys.map (·.1.2) = Tok.spans s := by
          have := congrArg (List.map Prod.snd) hS
          rwa [Tok.num_snd, List.map_map] at this
        have hyl : ys.length ≤ s.size := by
          have := congrArg List.length hmp
          rw [List.length_map] at this
          omega
        have hto : (stW s ws Bf Bh ys).1 ≤ s.size := (stW_len s ws Bf Bh hBf hBh ys).1
        have hbl : (stW s ws Bf Bh ys).2.length ≤ 10000 * 20040 := Nat.le_trans (stW_len s ws Bf Bh hBf hBh ys).2 (Nat.mul_le_mul (by omega) (by omega))
        have hmk : Tok.marked s (isOne s ws) Bf.data.toList Bh.data.toList = (stW s ws Bf Bh ys).2 ++ Tok.by_ s (stW s ws Bf Bh ys).1 s.size := by
          unfold Tok.marked stW
          rw [hmp]
        have ca := (cell_of_row V w.heap.size 0 _ _ _ i3.b0).trans (show _ = some (Value.string s) from rfl)
        have ct := i1.cell
        have hnv : N ≤ V.heap.size := by have := (Array.getElem?_eq_some_iff.1 i1).1; omega
        clear i1 hS hmp
        generalize (stW s ws Bf Bh ys).1 = t0 at hto hmk ct
        generalize (stW s ws Bf Bh ys).2 = b0 at hbl hmk i2
        have hto' : (t0 : Int) ≤ (s.size : Int) := by omega
        have hz1 : (s.extract t0 s.size).size ≤ 10000 := by rw [ByteArray.size_extract]; omega
        have HM := Lib.hid hmk; have KD := Lib.hid hK; have I2 := Lib.hid i2; have I3 := Lib.hid i3
        clear hmk hK i2 i3
        go_wp2_with fail
        refine (bldWrite_is N N b0 (s.extract t0 s.size) V I2.out (by omega) hnv).mono ?_
        rintro e V3 ⟨rfl, hd3, hb3, ho3⟩
        have hk3 := ho3 D _ KD.out (fun e => by injection e with e; omega) (fun c fz e => by cases e)
        have hn3 := Nat.le_trans hnv hb3.size
        clear ca ct
        go_wp2_with fail
        refine (bldString_is N N _ V3 hd3 hn3).mono ?_
        rintro e V4 ⟨rfl, hd4, hb4, ho4⟩
        have hk4 := ho4 D _ hk3 (fun e => by injection e with e; omega) (fun c fz e => by cases e)
        go_wp2
        refine ⟨by simp, .inl ⟨_, _, rfl, run_takeDeferred hk4, ?_⟩⟩
        have hfin : (b0 ++ List.take (s.size - t0) (List.drop t0 s.data.toList)) = Tok.marked s (isOne s ws) Bf.data.toList Bh.data.toList := by
          rw [HM.out]
          unfold Tok.by_
          rw [ByteArray.data_extract, Array.toList_extract]
        rw [hfin]
        have hbe : Below w.heap.size w V4 := I3.out.bel.trans ((hb3.trans hb4).mono (by omega))
        exact ⟨_, results_tmp rfl _ _ _, rfl, hbe.trans (belowK_b (w := w) (Nat.le_refl _) V4 D _ _ (by omega) hk4 rfl rfl)⟩
      case stop => exact fun _ _ _ _ _ _ h _ => h.elim
end Go.Proofs.YtldfomggeleolaaDoor
