/- token's Spans: where each word stands. -/
import Derived.Test.YtldfomggeleolaaDoorTokEach
import Derived.Test.YtldfomggeleolaaDoorPairsIn
import Derived.Test.YtldfomggeleolaaDoorTokRef3
namespace Go.Proofs.YtldfomggeleolaaDoor
open Go Go.RowKit Go.Shelf
set_option linter.unusedVariables false
attribute [local go_sem] Oper.semAt_some

/-- where the words stand that have come -/
def wsp {s : ByteArray} (pre : List (Wd s)) : List (Nat × Nat) := pre.map fun x => x.1.2
theorem wsp_len {s : ByteArray} (pre : List (Wd s)) : (wsp pre).length = pre.length := by simp [wsp]
theorem wsp_done {s : ByteArray} {ys : List (Wd s)} (h : ys.map (·.1) = Tok.num 0 (Tok.spans s)) : wsp ys = Tok.spans s := by
  have := congrArg (List.map Prod.snd) h
  rw [Tok.num_snd, List.map_map] at this
  exact this
theorem spl_snoc (l : List (Nat × Nat)) (x : Nat × Nat) : Tok.spl (l ++ [x]) = Tok.spl l ++ [(.int .i64 (x.1 : Int), .int .i64 (x.2 : Int))] := by simp [Tok.spl]
/-- a span's block is there -/
def SpAt (W : World) (g : Nat) (x : Nat × Nat) : Prop := W.heap[g]? = some (Obj.cells #[.int .i64 (x.1 : Int), .int .i64 (x.2 : Int)] 31 (0, 0))
theorem keptCells {W W' : World} {row : Option Nat} {k : Nat} {cs : Array Value} {t : TypeId} {m : Nat × Nat} (h : W.heap[k]? = some (Obj.cells cs t m)) (hg : W.grownBy W' row) (hr : ∀ r, row = some r → ∃ o : Obj, W.heap[r]? = some o ∧ o.isCells = false) : W'.heap[k]? = some (Obj.cells cs t m) := by
  refine (hg.block k (Array.getElem?_eq_some_iff.1 h).1 ?_).trans h
  intro e
  obtain ⟨o, ho, hc⟩ := hr k e.symm
  rw [h] at ho; cases ho; cases hc

set_option maxHeartbeats 4000000 in
set_option maxRecDepth 100000 in
theorem tokSpans_is (s : ByteArray) (w : World) (hs : s.size ≤ 100000) (hT : Tables w) :
    Calls Tryd.prog 12 #[.string s] w fun e w' => ∃ v, e = .returned v ∧ w'.ownsRow w.heap.size 31 2 v (Tok.spans s).length (pc (Tok.spl (Tok.spans s))) ∧ Below w.heap.size w w' := by
  have HT := Lib.hid hT
  have hsi := (Tok.sp_in s).1
  clear hT
  refine (callsIn_wide (n := 3)).1 ?_
  refine callsIn_of_wp_marks Tryd.func12 rfl trivial ?_ rfl
  simp only [Tryd.ntmps12, List.size_toArray, List.length_cons, List.length_nil, Nat.reduceAdd, Nat.reduceSub, Array.replicate_succ, Array.replicate_zero, List.push_toArray, List.append_toArray, List.nil_append, List.cons_append]
  gi_wp2_with (fail)
  refine ⟨trivial, callsIn_wide.2 ((tokEach_is s _).mono ?_)⟩
  rintro e w1 ⟨rfl, rfl⟩
  have hB0 : Below w.heap.size w ((w.alloc (.cells #[.slice none 0 0] 29)).alloc (.cells #[.string s] 9)) := ((Below.refl _ w).alloc (Nat.le_refl _) _).alloc (by simp) _
  have bO := Boxed.new w 29 (.slice none 0 0)
  have bS := heap_alloc_new (w.alloc (.cells #[.slice none 0 0] 29)) (.cells #[.string s] 9)
  rw [World.size_alloc] at bS
  gi_wp2_with (fail)
  obtain ⟨W0, hW0⟩ : ∃ W0, (w.alloc (.cells #[.slice none 0 0] 29)).alloc (.cells #[.string s] 9) = W0 := ⟨_, rfl⟩
  have hz : W0.heap.size = w.heap.size + 2 := by rw [← hW0]; simp
  have bO2 : Boxed W0 w.heap.size 29 (.slice none 0 0) := by rw [← hW0]; exact bO.alloc _
  rw [hW0] at bS hB0 ⊢
  clear hW0 bO
  refine wpIn_rangeFunc_ownH (F := Fence.wide) rfl (by omega) (gf := 34) (lb := #[.pointer (some ⟨w.heap.size + 1, 0, none⟩)]) rfl trivial (enters_of Tryd.func34 (by kernel_rfl) rfl)
    (each_stops s hs _ (w.heap.size + 1) w W0 HT.out hB0 bS) (fun h k => KpT.trans h k) (fun W l o o' h1 h2 h3 h4 => KpT.put hB0.size W l o o' h1 h2 h3 h4) (Below.refl _ _) (fun _ => rfl)
    (fun (pre : List (Wd s)) W => (∃ v, Boxed W w.heap.size 29 v ∧ W.ownsRow w.heap.size 31 2 v pre.length (pc (Tok.spl (wsp pre))) ∧ (pre.length = 0 → v = .slice none 0 0)) ∧ Below w.heap.size w W) (fun _ _ _ => False)
    (OwnFrom.and (Own.from (holdsRow_own w.heap.size w.heap.size 29 31 2 (fun (pre : List (Wd s)) => pre.length) (fun pre => pc (Tok.spl (wsp pre))) (fun pre v => pre.length = 0 → v = .slice none 0 0)) _) (ownFrom_below (Nat.le_refl _) hB0.size))
    (fun _ _ _ _ _ hs _ _ => hs) ⟨⟨_, bO2, World.ownsRow_nil _ _ _ _, fun _ => rfl⟩, hB0⟩
    (fun (x : Wd s) a' W => ∃ g, SpAt W g x.1.2 ∧ a' = { tmps := #[.string s, undef, .slice none 0 0, .pointer (some ⟨w.heap.size, 0, none⟩), undef, .pointer (some ⟨g, 0, none⟩), .string s, .func (.func 34) #[] #[.pointer (some ⟨w.heap.size + 1, 0, none⟩)], .int .i64 (x.1.1 : Int), .agg #[.int .i64 (x.1.2.1 : Int), .int .i64 (x.1.2.2 : Int)], undef, undef, undef, undef, undef], defers := [] })
    (fun x a' => Own.from (fun _ A B row hs hg hr => by obtain ⟨g, h2, h3⟩ := hs; exact ⟨g, keptCells h2 hg hr, h3⟩) _)
    ?assign ?body ?done ?stop
  case assign =>
    rintro l pre x W K hI hK
    dsimp only [encW, spv]
    rw [zip2]
    simp only [List.setIfInBounds_toArray, List.set_cons_succ, List.set_cons_zero]
    gi_wp2
    obtain ⟨⟨v, hv, hown, hnil⟩, hB⟩ := hI
    exact hK _ _ ((KeepsOthers.alloc _ _).from _) (KpT.of_below ((Below.refl _ W).alloc (Nat.le_refl _) _) hB.size) ⟨⟨v, hv.alloc _, hown.alloc _, hnil⟩, hB.alloc hB.size _⟩ ⟨W.heap.size, heap_alloc_new W _, rfl⟩
  case body =>
    rintro l pre x a' W hl hrec ⟨⟨v, hv, hrow, hnil⟩, hB⟩ ⟨g, hsp, rfl⟩ hlt
    have hc := hv.cell
    have hf := hv.frozen
    have c0 := (cell_of_row W g 0 _ _ _ hsp).trans (show _ = some (Value.int .i64 (x.1.2.1 : Int)) from rfl)
    have c1 := (cell_of_row W g 1 _ _ _ hsp).trans (show _ = some (Value.int .i64 (x.1.2.2 : Int)) from rfl)
    gi_wp2_with (gi_at_builtin; refine wpListIn_pairK isSpan _ rfl _ _ rfl w.heap.size _ (Tok.spl (wsp pre)) _ rfl hrow (.int .i64 (x.1.2.1 : Int)) (.int .i64 (x.1.2.2 : Int)) rfl rfl rfl hnil (by omega) (by unfold maxLen; omega) hB.size ?_; intro v' w1 hown' hgrow hkeep; obtain ⟨g', cap', rfl⟩ := ownsRow_succ hown'; obtain ⟨hv1, hv2, hr2, hk2, hb2⟩ := hv.appended (by decide) hrow hB.size (Nat.le_refl _) hown' hgrow; have hc1 := hv1.cell; have hf1 := hv1.frozen)
    refine ⟨hk2.from _, ⟨hb2, fun k cs m hk hs2 => ?_, fun k cs m hk => ?_⟩, ⟨_, hv2, ?_, fun h => by simp at h⟩, hB.trans hb2⟩
    · refine (Below.heap_setCell _ _ _ k ?_).trans (hkeep k cs m hk hs2)
      rintro rfl
      rw [show W.heap[w.heap.size]? = _ from hv] at hk; simp at hk
    · refine (Below.heap_setCell _ _ _ k ?_).trans ((hgrow.block k (by have := (Array.getElem?_eq_some_iff.1 hk).1; simp; omega) (own_ne hrow hk (by decide))).trans ((Below.heap_alloc W _ k (Array.getElem?_eq_some_iff.1 hk).1).trans hk))
      rintro rfl
      rw [show W.heap[w.heap.size]? = _ from hv] at hk; simp at hk
    · rw [show wsp (pre ++ [x]) = wsp pre ++ [x.1.2] from by simp [wsp], spl_snoc, List.length_append, List.length_singleton]
      exact hr2
  case done =>
    rintro D ys W hD hS ⟨⟨v, hv, hrow, hnil⟩, hB⟩ hK
    have hc := hv.cell
    have he := wsp_done hS
    have hl : ys.length = (Tok.spans s).length := by rw [← he, wsp_len]
    rw [he, hl] at hrow
    gi_wp2
    refine ⟨by simp, .inl ⟨_, _, rfl, run_takeDeferred hK, ?_⟩⟩
    exact ⟨_, results_tmp rfl _ _ _, v, rfl, ownsRow_putObj hrow _ hK rfl, hB.trans (belowK_b (w := w) (Nat.le_refl _) W D _ _ (by omega) hK rfl rfl)⟩
  case stop =>
    rintro D c pre W _ _ h _
    exact h.elim
end Go.Proofs.YtldfomggeleolaaDoor
