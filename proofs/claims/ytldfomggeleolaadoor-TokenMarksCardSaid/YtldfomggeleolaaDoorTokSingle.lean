/- token's Single and small. -/
import Derived.Test.YtldfomggeleolaaDoorTokNext
import Derived.Test.YtldfomggeleolaaDoorTokRef2
import Derived.Lib.Strings
namespace Go.Proofs.YtldfomggeleolaaDoor
open Go Go.RowKit
set_option linter.unusedVariables false

theorem single_sk (s : ByteArray) (h : s.size ≠ 0) : Tok.single s = (decide (Tok.sk s false 0 = 0) && decide (Tok.sk s true (Tok.sk s false 0) = s.size)) := by
  unfold Tok.single
  have h0 : 0 < s.size := by omega
  cases hw : Tok.wd s 0 with
  | true =>
    have h1 : Tok.sk s false 0 = 0 := Tok.sk_no (by rw [hw]; decide)
    rw [h1]
    simp [h]
  | false =>
    have h1 := Tok.sk_gt h0 hw
    have h2 : ¬ Tok.sk s false 0 = 0 := by omega
    simp [h2]
theorem ba_empty (s : ByteArray) (h : s.size = 0) : s = ⟨#[]⟩ := by
  apply ByteArray.ext
  exact Array.eq_empty_of_size_eq_zero h

set_option maxHeartbeats 4000000 in
set_option maxRecDepth 100000 in
theorem tokSingle_is (s : ByteArray) (w : World) (hs : s.size ≤ 100000) (hT : Tables w) :
    Calls Tryd.prog 16 #[.string s] w fun e w' => e = .returned (.bool (Tok.single s)) ∧ Below w.heap.size w w' := by
  by_cases h0 : s.size = 0
  · obtain rfl := ba_empty s h0
    go_enter Tryd.func16, Tryd.ntmps16
    go_wp2
    go_ret
    exact ⟨ret_bool (by decide), Below.refl _ _⟩
  · have hne : s ≠ ⟨#[]⟩ := fun h => h0 (by rw [h]; rfl)
    have hl0 : s.toList ≠ [] := fun h => by
      rw [Lib.toList_data] at h
      have := congrArg List.length h
      exact h0 (by simpa using this)
    have hle : s.toList.isEmpty = false := by rw [List.isEmpty_eq_false_iff]; exact hl0
    have NX := Lib.hid (tokNext_is s 0 w hs (Nat.zero_le _) hT)
    have hsg := single_sk s h0
    generalize Tok.sk s true (Tok.sk s false 0) = e at NX hsg
    generalize Tok.sk s false 0 = a at NX hsg
    generalize Tok.single s = b at hsg ⊢
    have SG := Lib.hid hsg
    clear hsg hT
    go_enter Tryd.func16, Tryd.ntmps16
    go_wp2_with fail
    refine NX.out.mono ?_
    rintro e w1 ⟨rfl, hb⟩
    have HB := Lib.hid hb
    clear hb
    simp only [spv]
    by_cases ha : a = 0
    · subst ha
      by_cases he : e = s.size
      · have hb2 : b = true := by rw [SG.out, he]; simp
        subst hb2
        subst he
        clear SG NX
        go_wp2
        go_ret
        exact ⟨rfl, HB.out⟩
      · have hb2 : b = false := by rw [SG.out]; simp [he]
        have he' : ¬ (e : Int) = s.size := by omega
        subst hb2
        clear SG NX
        go_wp2
        go_ret
        exact ⟨rfl, HB.out⟩
    · have hb2 : b = false := by rw [SG.out]; simp [ha]
      subst hb2
      clear SG NX
      go_wp2
      go_ret
      exact ⟨rfl, HB.out⟩

def tkv (x : ByteArray × Nat) : Value := .agg #[.string x.1, .int .i64 (x.2 : Int)]
/-- a word with small letters, and its place; the zero token, if it is too long -/
def smallV (T : ByteArray) (at_ : Nat) : Value := if T.size ≤ 20 then tkv (T, at_) else tkv (⟨#[]⟩, 0)
set_option maxHeartbeats 4000000 in
set_option maxRecDepth 100000 in
theorem tokSmall_is (s : ByteArray) (at_ : Nat) (w : World) (hs : s.size ≤ 100000) (hT : Tables w) :
    Calls Tryd.prog 23 #[.string s, .int .i64 at_] w (RetV w (smallV ⟨(Utf.ft s s.size 0).toArray⟩ at_)) := by
  have FX := Lib.hid (fun w h => foldText_is s w (by omega) (Tables.shapes h) (Tables.great h))
  have HT := Lib.hid hT
  clear hT
  generalize (⟨(Utf.ft s s.size 0).toArray⟩ : ByteArray) = T at FX ⊢
  go_enter Tryd.func23, Tryd.ntmps23
  go_wp2_with fail
  have hb0 := (Below.refl w.heap.size w).alloc (Nat.le_refl _) (.cells #[.string ⟨#[]⟩, .int .i64 0] 26)
  have C0 := heap_alloc_new w (.cells #[.string ⟨#[]⟩, .int .i64 0] 26)
  refine (FX.out _ (HT.out.below hb0)).mono ?_
  rintro e w1 ⟨rfl, hb1⟩
  have B1 := Lib.hid (hb0.trans (hb1.mono hb0.size))
  have C2 : w1.heap[w.heap.size]? = some (Obj.cells #[.string ⟨#[]⟩, .int .i64 0] 26 (0, 0)) := (hb1.block _ (by simp)).trans C0
  have c0 := (cell_of_row w1 w.heap.size 0 _ _ _ C2).trans (show _ = some (.string ⟨#[]⟩) from rfl)
  have c1 := (cell_of_row w1 w.heap.size 1 _ _ _ C2).trans (show _ = some (.int .i64 0) from rfl)
  have f0 := frozen_of_row w1 w.heap.size 0 _ _ C2
  have f1 := frozen_of_row w1 w.heap.size 1 _ _ C2
  clear hb0 hb1 C0 FX
  by_cases hz : T.size ≤ 20
  · have hz' : ¬ (T.size : Int) > 20 := by omega
    have HV : Ending.returned (.agg #[.string T, .int .i64 (at_ : Int)]) = .returned (smallV T at_) := by unfold smallV; rw [if_pos hz]; rfl
    go_wp2
    have C3 := set_cells (set_cells C2 0 (.string T)) 1 (.int .i64 (at_ : Int))
    have B3 := (B1.out.setCell (p := ⟨w.heap.size, 0, none⟩) (Nat.le_refl _) (.string T)).setCell (p := ⟨w.heap.size, 1, none⟩) (Nat.le_refl _) (.int .i64 (at_ : Int))
    clear c0 c1 f0 f1 C2
    generalize (w1.setCell ⟨w.heap.size, 0, none⟩ (.string T)).setCell ⟨w.heap.size, 1, none⟩ (.int .i64 (at_ : Int)) = w3 at C3 B3 ⊢
    exact bodyPost_ret (v := .agg #[.string T, .int .i64 (at_ : Int)]) (results_cell_row rfl _ w3 w.heap.size _ _ (0, 0) _ rfl C3 Tryd.underlying26 rfl (by kernel_rfl)) rfl ⟨HV, B3⟩
  · have hz' : (T.size : Int) > 20 := by omega
    have HV : Ending.returned (.agg #[.string ⟨#[]⟩, .int .i64 0]) = .returned (smallV T at_) := by unfold smallV; rw [if_neg hz]; rfl
    go_wp2
    have C3 := set_cells (set_cells C2 0 (.string ⟨#[]⟩)) 1 (.int .i64 0)
    have B3 := (B1.out.setCell (p := ⟨w.heap.size, 0, none⟩) (Nat.le_refl _) (.string ⟨#[]⟩)).setCell (p := ⟨w.heap.size, 1, none⟩) (Nat.le_refl _) (.int .i64 0)
    clear c0 c1 f0 f1 C2
    generalize (w1.setCell ⟨w.heap.size, 0, none⟩ (.string ⟨#[]⟩)).setCell ⟨w.heap.size, 1, none⟩ (.int .i64 0) = w3 at C3 B3 ⊢
    exact bodyPost_ret (v := .agg #[.string ⟨#[]⟩, .int .i64 0]) (results_cell_row rfl _ w3 w.heap.size _ _ (0, 0) _ rfl C3 Tryd.underlying26 rfl (by kernel_rfl)) rfl ⟨HV, B3⟩
end Go.Proofs.YtldfomggeleolaaDoor
