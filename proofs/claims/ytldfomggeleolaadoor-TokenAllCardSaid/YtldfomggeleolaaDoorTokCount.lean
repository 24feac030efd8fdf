/- token's Count: how many words a text has. -/
import Derived.Test.YtldfomggeleolaaDoorTokEach
namespace Go.Proofs.YtldfomggeleolaaDoor
open Go Go.RowKit Go.Shelf
set_option linter.unusedVariables false
attribute [local go_sem] Oper.semAt_some

set_option maxHeartbeats 4000000 in
set_option maxRecDepth 100000 in
theorem tokCount_is (s : ByteArray) (w : World) (hs : s.size ≤ 100000) (hT : Tables w) :
    Calls Tryd.prog 14 #[.string s] w fun e w' => e = .returned (.int .i64 ((Tok.spans s).length : Nat)) ∧ Below w.heap.size w w' := by
  have HT := Lib.hid hT
  have hsi := (Tok.sp_in s).1
  clear hT
  refine (callsIn_wide (n := 3)).1 ?_
  refine callsIn_of_wp_marks Tryd.func14 rfl trivial ?_ rfl
  simp only [Tryd.ntmps14, List.size_toArray, List.length_cons, List.length_nil, Nat.reduceAdd, Nat.reduceSub, Array.replicate_succ, Array.replicate_zero, List.push_toArray, List.append_toArray, List.nil_append, List.cons_append]
  gi_wp2_with (fail)
  refine ⟨trivial, callsIn_wide.2 ((tokEach_is s _).mono ?_)⟩
  rintro e w1 ⟨rfl, rfl⟩
  have hB0 : Below w.heap.size w ((w.alloc (.cells #[.int .i64 0] 3)).alloc (.cells #[.string s] 9)) := ((Below.refl _ w).alloc (Nat.le_refl _) _).alloc (by simp) _
  have bO := Boxed.new w 3 (.int .i64 0)
  have bS := heap_alloc_new (w.alloc (.cells #[.int .i64 0] 3)) (.cells #[.string s] 9)
  rw [World.size_alloc] at bS
  gi_wp2_with (fail)
  obtain ⟨W0, hW0⟩ : ∃ W0, (w.alloc (.cells #[.int .i64 0] 3)).alloc (.cells #[.string s] 9) = W0 := ⟨_, rfl⟩
  have hz : W0.heap.size = w.heap.size + 2 := by rw [← hW0]; simp
  have bO2 : Boxed W0 w.heap.size 3 (.int .i64 0) := by rw [← hW0]; exact bO.alloc _
  rw [hW0] at bS hB0 ⊢
  clear hW0 bO
  refine wpIn_rangeFunc_ownG (F := Fence.wide) rfl (by omega) (gf := 34) (lb := #[.pointer (some ⟨w.heap.size + 1, 0, none⟩)]) rfl trivial (enters_of Tryd.func34 (by kernel_rfl) rfl)
    (each_stops s hs _ (w.heap.size + 1) w W0 HT.out hB0 bS) (fun h k => KpT.trans h k) (fun W l o o' h1 h2 h3 h4 => KpT.put hB0.size W l o o' h1 h2 h3 h4) (Below.refl _ _) (fun _ => rfl)
    (fun (pre : List (Wd s)) W => Boxed W w.heap.size 3 (.int .i64 (pre.length : Nat)) ∧ Below w.heap.size w W) (fun _ _ _ => False)
    (OwnFrom.and (Own.from (boxed_own w.heap.size 3 (fun (pre : List (Wd s)) => .int .i64 (pre.length : Nat))) _) (ownFrom_below (Nat.le_refl _) hB0.size))
    (fun _ _ _ _ _ hs _ _ => hs) ⟨bO2, hB0⟩
    (fun (x : Wd s) => { tmps := #[.string s, undef, .int .i64 0, .pointer (some ⟨w.heap.size, 0, none⟩), .string s, .func (.func 34) #[] #[.pointer (some ⟨w.heap.size + 1, 0, none⟩)], .int .i64 (x.1.1 : Int), spv x.1.2, undef, undef, undef], defers := [] }) ?assign ?body ?done ?stop
  case assign =>
    intro l x W K hK
    dsimp only [encW]
    gi_wp2
    rw [zip2]
    simp only [List.setIfInBounds_toArray, List.set_cons_succ, List.set_cons_zero]
    exact hK
  case body =>
    rintro l pre x W ⟨hv, hB⟩ hlt
    have hc := hv.cell
    have hf := hv.frozen
    have hl2 : pre.length < 100000 := by omega
    gi_wp2
    have hv2 := hv.set (.int .i64 ((pre.length : Int) + 1))
    refine ⟨(KeepsOthers.setCell _ _ _).from _, ⟨(Below.refl _ W).setCell (p := ⟨w.heap.size, 0, none⟩) (Nat.le_refl _) _, fun k cs m hk hs2 => ?_, fun k cs m hk => ?_⟩, ?_, hB.setCell (p := ⟨w.heap.size, 0, none⟩) (Nat.le_refl _) _⟩
    · refine (Below.heap_setCell W _ _ k ?_).trans hk
      rintro rfl
      rw [show W.heap[w.heap.size]? = _ from hv] at hk; simp at hk
    · refine (Below.heap_setCell W _ _ k ?_).trans hk
      rintro rfl
      rw [show W.heap[w.heap.size]? = _ from hv] at hk; simp at hk
    · rw [List.length_append, List.length_singleton, Int.natCast_add]; exact hv2
  case done =>
    rintro D ys W hD hS ⟨hv, hB⟩ hK
    have hc := hv.cell
    have hlen : ys.length = (Tok.spans s).length := by
      have := congrArg List.length hS
      rwa [List.length_map, Tok.num_len] at this
    rw [hlen] at hc
    gi_wp2
    refine ⟨by simp, .inl ⟨_, _, rfl, run_takeDeferred hK, ?_⟩⟩
    exact ⟨_, results_tmp rfl _ _ _, rfl, hB.trans (belowK_b (w := w) (Nat.le_refl _) W D _ _ (by omega) hK rfl rfl)⟩
  case stop =>
    rintro D c pre W _ _ h _
    exact h.elim
end Go.Proofs.YtldfomggeleolaaDoor
