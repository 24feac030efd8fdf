/- Clone and Compact of three dots. -/
import Derived.Test.YtkkepfbckpmbhaaDotSort2
import Derived.Test.YtkkepfbckpmbhaaMemOne
namespace Go.Proofs.Ytkkepfbckpmbhaa
open Go Go.RowKit
set_option linter.unusedVariables false

theorem infoDot : (Try.prog.info? 23).map (fun i => (i.zero, i.size, i.bytes)) = some (some (.agg #[.int .i64 0, .int .i64 0]), 2, 16) := by kernel_rfl
theorem news3 {w : World} {b : Nat} (h : Six w b 4 3 6) : ∀ j u, ([Value.int .i64 0, .int .i64 4, .int .i64 0, .int .i64 3, .int .i64 0, .int .i64 6] : List Value)[j]? = some u → w.cell? ((⟨b, 0, none⟩ : Addr).add j) = some u := by
  intro j u hu
  rw [Addr.add_mid, Nat.zero_add]
  match j, hu with
  | 0, hu => rw [h.c0]; simpa using hu
  | 1, hu => rw [h.c1]; simpa using hu
  | 2, hu => rw [h.c2]; simpa using hu
  | 3, hu => rw [h.c3]; simpa using hu
  | 4, hu => rw [h.c4]; simpa using hu
  | 5, hu => rw [h.c5]; simpa using hu
  | j + 6, hu => simp at hu
/-- a row of three dots, the call's own -/
def Cloned (w : World) (e : Ending) (w' : World) : Prop := ∃ g cap, e = .returned (.slice (some ⟨g, 0, none⟩) 3 cap) ∧ 3 ≤ cap ∧ w.heap.size ≤ g ∧ Six w' g 4 3 6 ∧ Below w.heap.size w w'
set_option maxHeartbeats 1000000 in
set_option maxRecDepth 100000 in
theorem clone3 (b cap : Nat) (w : World) (h : Six w b 4 3 6) :
    Calls Try.prog 61 #[.slice (some ⟨b, 0, none⟩) 3 cap] w (Cloned w) := by
  have H := Lib.hid h
  obtain ⟨i0, hi0, hz0, hz1, hz2⟩ := info_parts infoDot
  clear h
  go_enter Try.func61, Try.ntmps61
  have hown : Hid ((w.alloc (.cells #[] 23)).ownsRow w.heap.size 23 2 (.slice (some ⟨w.heap.size, 0, none⟩) 0 0) 0 []) :=
    ⟨rfl, .inr ⟨w.heap.size, 0, #[], rfl, Nat.le_refl _, heap_alloc_new w _, Nat.le_refl _, Nat.zero_le _, rfl, rfl⟩⟩
  have q : ∀ (w : World) (a : Option Addr) (n c n' c' : Nat), (binOp .eql 53 (.slice a n c) (.slice none n' c')).run Try.prog w = .ok (.bool a.isNone) w := fun w a n c n' c' => Lib.run_eql_slice_nil w _ _ a n c n' c' Try.underlying53
  have B1 := Lib.hid (below_alloc w (.cells #[] 23))
  have H1 := Lib.hid (H.out.later B1.out)
  have h1c : ∀ u ∈ ([.int .i64 0, .int .i64 4, .int .i64 0, .int .i64 3, .int .i64 0, .int .i64 6] : List Value), u.oneCell' = true := by
    intro u hu
    simp only [List.mem_cons, List.not_mem_nil, or_false] at hu
    rcases hu with rfl | rfl | rfl | rfl | rfl | rfl <;> rfl
  have hml : 0 + 3 ≤ maxLen := by unfold maxLen; omega
  have hbs : w.heap.size ≤ (w.alloc (.cells #[] 23)).heap.size := by simp
  have hNW := news3 H1.out
  go_wp2_with (at_builtin; refine wpList_append_own _ rfl _ _ 53 rfl w.heap.size 23 i0 _ 2 16 Try.underlying53 hi0 hz0 hz1 hz2 rfl (by decide) _ 0 [] rfl hown.out ⟨b, 0, none⟩ 3 cap [.int .i64 0, .int .i64 4, .int .i64 0, .int .i64 3, .int .i64 0, .int .i64 6] rfl rfl hNW h1c hml (by decide) hbs ?_)
  intro v' w2 hown2 hg2 _
  have E : Hid (Cloned w (.returned v') w2) := by
    have hb2 : Below w.heap.size w w2 := B1.out.trans ((Below.refl _ _).grown hg2 (by simp) (fun k hk => by have := Option.some.inj hk; simp at this; omega))
    rcases hown2.2 with ⟨_, e⟩ | ⟨g, c2, cur, rfl, hle, hcur, hc, _, hsz, htk⟩
    · omega
    · refine ⟨g, c2, rfl, by omega, hle, ?_, hb2⟩
      have hat : ∀ j, j < 6 → w2.cell? ⟨g, j, none⟩ = ([Value.int .i64 0, .int .i64 4, .int .i64 0, .int .i64 3, .int .i64 0, .int .i64 6] : List Value)[j]? := by
        intro j hj
        have := congrArg (·[j]?) htk
        simp only [List.nil_append, List.getElem?_take, show j < (0 + 3) * 2 from by omega, if_true, Array.getElem?_toList] at this
        rw [cell_of_row _ g j _ _ _ hcur, this]
      exact ⟨hat 0 (by omega), hat 1 (by omega), hat 2 (by omega), hat 3 (by omega), hat 4 (by omega), hat 5 (by omega), fun i => frozen_of_row _ _ _ _ _ hcur⟩
  clear hown2 hg2
  go_wp2
  go_ret
  exact E.out
/-- three that are unlike stay -/
def Same3 (w : World) (b cap : Nat) (e : Ending) (w' : World) : Prop := e = .returned (.slice (some ⟨b, 0, none⟩) 3 cap) ∧ Six w' b 3 4 6 ∧ Below w.heap.size w w'
set_option maxHeartbeats 2000000 in
set_option maxRecDepth 100000 in
theorem compact3 (b cap : Nat) (w : World) (h : Six w b 3 4 6) :
    Calls Try.prog 63 #[.slice (some ⟨b, 0, none⟩) 3 cap] w (Same3 w b cap) := by
  have H := Lib.hid h
  clear h
  go_enter Try.func63, Try.ntmps63
  go_wp2
  go_loopw [3] (fun i wr => (i = .int .i64 1 ∨ i = .int .i64 2 ∨ i = .int .i64 3) ∧ Six wr b 3 4 6 ∧ Below w.heap.size w wr) (fun i _ => 3 - (intOf i).toNat)
  case atStart => exact ⟨.inl rfl, H.out, Below.refl _ _⟩
  case round =>
    obtain ⟨hi, hs, hb⟩ := hrel
    have S := Lib.hid hs; have B := Lib.hid hb
    have a0 := hs.c0; have a1 := hs.c1; have a2 := hs.c2; have a3 := hs.c3; have a4 := hs.c4; have a5 := hs.c5
    clear hs hb
    rcases hi with rfl | rfl | rfl
    · have hw0 : IntKind.i64.wrap 0 = 0 := by decide
      go_wp2
      go_quiet (fail)
      have hb2 : Below wr.heap.size wr (wr.drewN nq) := ⟨rfl, rfl, rfl, Nat.le_refl _, fun _ _ => rfl⟩
      have S2 := Lib.hid (S.out.later hb2); have B2 := Lib.hid (thenBelow B.out hb2)
      generalize wr.drewN nq = wq at hb2 S2 B2 ⊢
      clear hb2 a0 a1 a2 a3 a4 a5
      go_wp2
      go_roundw
      case rel => exact ⟨.inr (.inl rfl), S2.out, B2.out⟩
      case measure => simp [intOf]
    · have hw0 : IntKind.i64.wrap 1 = 1 := by decide
      go_wp2
      go_quiet (fail)
      have hb2 : Below wr.heap.size wr (wr.drewN nq) := ⟨rfl, rfl, rfl, Nat.le_refl _, fun _ _ => rfl⟩
      have S2 := Lib.hid (S.out.later hb2); have B2 := Lib.hid (thenBelow B.out hb2)
      generalize wr.drewN nq = wq at hb2 S2 B2 ⊢
      clear hb2 a0 a1 a2 a3 a4 a5
      go_wp2
      go_roundw
      case rel => exact ⟨.inr (.inr rfl), S2.out, B2.out⟩
      case measure => simp [intOf]
    · clear a0 a1 a2 a3 a4 a5
      go_wp2
      go_ret
      exact ⟨rfl, S.out, B.out⟩
end Go.Proofs.Ytkkepfbckpmbhaa
