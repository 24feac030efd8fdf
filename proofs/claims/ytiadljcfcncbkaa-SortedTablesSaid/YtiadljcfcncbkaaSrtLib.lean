/- slices.Index and slices.Contains of ints, slices.IsSorted of ints in order. -/
import Derived.Test.YtiadljcfcncbkaaMemIntsOwn
import Derived.Test.YtiadljcfcncbkaaRgMore
import Derived.Test.YtiadljcfcncbkaaEqualI
import Derived.WalkKit
namespace Go.Proofs.Ytiadljcfcncbkaa
open Go Go.RowKit
set_option linter.unusedVariables false

/-- where a number stands first -/
def idxI : List Int → Int → Nat
  | [], _ => 0
  | y :: l, x => if x = y then 0 else idxI l x + 1
theorem idxI_le : ∀ (l : List Int) (x : Int), idxI l x ≤ l.length
  | [], _ => Nat.le_refl _
  | y :: l, x => by
    unfold idxI
    have := idxI_le l x
    split
    · exact Nat.zero_le _
    · simp; exact this
theorem idxI_before : ∀ (l : List Int) (x : Int) (j : Nat), j < idxI l x → l.getD j 0 ≠ x
  | [], _, j, h => by simp [idxI] at h
  | y :: l, x, j, h => by
    unfold idxI at h
    split at h
    · omega
    · rename_i hxy
      cases j with
      | zero => simpa using fun e => hxy e.symm
      | succ j => simpa using idxI_before l x j (by omega)
theorem idxI_at : ∀ (l : List Int) (x : Int), idxI l x < l.length → l.getD (idxI l x) 0 = x
  | [], _, h => by simp [idxI] at h
  | y :: l, x, h => by
    unfold idxI at h ⊢
    split
    · rename_i e; simp [e]
    · rename_i hxy
      rw [if_neg hxy] at h
      simpa using idxI_at l x (by simpa using h)
theorem idxI_lt (l : List Int) (x : Int) (h : x ∈ l) : idxI l x < l.length := by
  rcases Nat.lt_or_ge (idxI l x) l.length with h1 | h1
  · exact h1
  · obtain ⟨j, hj, e⟩ := List.getElem_of_mem h
    exact absurd (by simp [List.getD, List.getElem?_eq_getElem hj, e]) (idxI_before l x j (by omega))
set_option maxHeartbeats 1000000 in
/-- slices.Index of one that is there -/
theorem index_in (p : Option Addr) (c : Nat) (l : List Int) (x : Int) (w : World) (hl : LiesI w p l) (hx : x ∈ l) (hn : l.length ≤ 1000000) :
    Calls Try.prog 31 #[.slice p l.length c, .int .i64 x] w fun e w' => e = .returned (.int .i64 (idxI l x : Nat)) ∧ w' = w := by
  have H := Lib.hid hl
  have IL := Lib.hid (idxI_lt l x hx); have IB := Lib.hid (idxI_before l x); have IA := Lib.hid (idxI_at l x)
  clear hl hx
  generalize idxI l x = m at IL IB IA
  go_enter Try.func31, Try.ntmps31
  go_wp2
  go_loopw [8] (fun i wr => ∃ k : Nat, k ≤ m ∧ i = .int .i64 k ∧ wr = w) (fun i _ => l.length - (intOf i).toNat)
  case atStart => exact ⟨0, Nat.zero_le _, rfl, rfl⟩
  case round =>
    obtain ⟨k, hk, rfl, rfl⟩ := hrel
    have hkl : k < l.length := Nat.lt_of_le_of_lt hk IL.out
    obtain ⟨b1, o1, rfl, _, q1⟩ := H.out.at (by omega)
    have r1 := q1 k hkl
    have hkl' : (k : Int) < l.length := by omega
    clear q1
    by_cases hkm : k < m
    · have hne := IB.out k hkm
      generalize l.getD k 0 = y at r1 hne
      have hne' : ¬ x = y := fun e => hne e.symm
      go_wp2
      go_roundw
      case rel => exact ⟨k + 1, by omega, by go_num, trivial⟩
      case measure => simp [intOf]; omega
    · obtain rfl : k = m := by omega
      rw [IA.out hkl] at r1
      go_wp2
      go_ret
      exact ⟨rfl, rfl⟩
set_option maxHeartbeats 1000000 in
theorem contains_in (p : Option Addr) (c : Nat) (l : List Int) (x : Int) (w : World) (hl : LiesI w p l) (hx : x ∈ l) (hn : l.length ≤ 1000000) :
    Calls Try.prog 40 #[.slice p l.length c, .int .i64 x] w fun e w' => e = .returned (.bool true) ∧ w' = w := by
  have IX := Lib.hid (index_in p c l x w hl hx hn)
  have hlt := idxI_lt l x hx
  clear hl hx
  generalize idxI l x = m at IX hlt
  have hm : (m : Int) ≥ 0 := by omega
  go_enter Try.func40, Try.ntmps40
  go_wp2_with fail
  refine IX.out.mono ?_
  rintro e w' ⟨rfl, rfl⟩
  go_wp2_with fail
  go_ret
  exact ⟨rfl, rfl⟩
theorem isNaNc_is (x : Int) (w : World) : Calls Try.prog 68 #[.int .i64 x] w fun e w' => e = .returned (.bool false) ∧ w' = w := by
  go_enter Try.func68, Try.ntmps68
  go_wp2
  go_ret
  exact ⟨by simp, rfl⟩
theorem cmpLess_is (x y : Int) (w : World) (h : ¬ x < y) : Calls Try.prog 50 #[.int .i64 x, .int .i64 y] w fun e w' => e = .returned (.bool false) ∧ w' = w := by
  go_enter Try.func50, Try.ntmps50
  go_wp2_with fail
  refine (isNaNc_is x w).mono ?_
  rintro e w ⟨rfl, rfl⟩
  go_wp2_with fail
  go_ret
  exact ⟨by simp [h], rfl⟩
theorem exec_subI {P : Program} {o : Oper} {a : Act} (t yt : TypeId) (x y : Operand) (ho : o.op = .binOp .sub t x y yt) (X Y R : Int) (hR : IntKind.i64.wrap (X - Y) = R) (hx : a.eval x = .int .i64 X) (hy : a.eval y = .int .i64 Y) (w : World) :
    (execOp a.eval o).run P w = .ok (.value (.int .i64 R)) w := by
  subst hR
  unfold execOp
  simp only [ho, hx, hy]
  rfl
set_option maxHeartbeats 1000000 in
/-- slices.IsSorted of numbers in order -/
theorem isSorted_is (p : Option Addr) (c : Nat) (l : List Int) (w : World) (hl : LiesI w p l) (hs : l.Pairwise (· ≤ ·)) (hn : l.length ≤ 1000000) :
    Calls Try.prog 23 #[.slice p l.length c] w fun e w' => e = .returned (.bool true) ∧ Below w.heap.size w w' := by
  have H := Lib.hid hl; have HS := Lib.hid hs
  clear hl hs
  go_enter Try.func23, Try.ntmps23
  go_wp2
  go_loopw [3] (fun i wr => ∃ k : Int, k < l.length ∧ -1 ≤ k ∧ i = .int .i64 k ∧ Below w.heap.size w wr) (fun i _ => (intOf i).toNat)
  case atStart => exact ⟨(l.length : Int) - 1, by omega, by omega, rfl, Below.refl _ _⟩
  case round =>
    obtain ⟨k, hk, hk1, rfl, hb⟩ := hrel
    have BB := Lib.hid hb
    clear hb
    by_cases h0 : 0 < k
    · obtain ⟨j, rfl⟩ : ∃ j : Nat, k = ((j + 1 : Nat) : Int) := ⟨(k - 1).toNat, by omega⟩
      have h0' : ((j + 1 : Nat) : Int) > 0 := by omega
      go_wp2_with fail
      rename_i K hK
      obtain ⟨b1, o1, rfl, _, q1⟩ := (H.out.below BB.out).at (by omega)
      have r1 := q1 (j + 1) (by omega)
      have r0 := q1 j (by omega)
      have hle : l.getD j 0 ≤ l.getD (j + 1) 0 := by
        have := List.pairwise_iff_getElem.1 HS.out j (j + 1) (by omega) (by omega) (by omega)
        simpa [List.getD, List.getElem?_eq_getElem (show j < l.length by omega), List.getElem?_eq_getElem (show j + 1 < l.length by omega)] using this
      clear q1
      generalize l.getD j 0 = y at r0 hle
      generalize l.getD (j + 1) 0 = x at r1 hle
      refine rg_calm (by kernel_rfl) rfl (S := fun V => V.cell? ⟨b1, o1 + (j + 1), none⟩ = some (.int .i64 x) ∧ V.cell? ⟨b1, o1 + j, none⟩ = some (.int .i64 y) ∧ Below w.heap.size w V) ?_
      have hS : (fun V : World => V.cell? ⟨b1, o1 + (j + 1), none⟩ = some (.int .i64 x) ∧ V.cell? ⟨b1, o1 + j, none⟩ = some (.int .i64 y) ∧ Below w.heap.size w V) wr.drew := ⟨r1, r0, below_drewN BB.out 1⟩
      have KK : ∀ V : World, Below w.heap.size w V → K { tmps := #[.slice (some ⟨b1, o1, none⟩) l.length c, undef, u2, .int .i64 ((j + 1 : Nat) : Int), .slice (some ⟨b1, o1, none⟩) l.length c, .int .i64 l.length, .int .i64 ((l.length : Int) - 1), .int .i64 ((j + 1 : Nat) : Int), .bool true, u9, u10, .slice (some ⟨b1, o1, none⟩) l.length c, .int .i64 ((j + 1 : Nat) : Int), .pointer (some ⟨b1, o1 + (j + 1), none⟩), .int .i64 x, .slice (some ⟨b1, o1, none⟩) l.length c, .int .i64 ((j + 1 : Nat) : Int), .int .i64 (j : Int), .pointer (some ⟨b1, o1 + j, none⟩), .int .i64 y, .bool false], defers := [] } V := by
        intro V hV
        refine hK _ _ ?_
        clear hK hS r0 r1
        have BV := Lib.hid hV
        clear hV BB
        go_wp2
        go_roundw
        case rel => exact ⟨(j : Int), by omega, by omega, by go_num, BV.out⟩
        case measure => simp [intOf]
      clear r0 r1
      refine rgd_pure 0 (some 11) rfl rfl (.slice (some ⟨b1, o1, none⟩) l.length c) (by kernel_rfl) (by kernel_rfl) (by kernel_rfl) (fun _ _ _ _ h => h) (by kernel_rfl) (exec_is _ (.inl rfl) _ (by kernel_rfl)) hS ?_
      refine rgd_pure 1 (some 12) rfl rfl (.int .i64 ((j + 1 : Nat) : Int)) (by kernel_rfl) (by kernel_rfl) (by kernel_rfl) (fun _ _ _ _ h => h) (by kernel_rfl) (exec_is _ (.inl rfl) _ (by kernel_rfl)) hS ?_
      refine rgd_index 2 (some 13) rfl rfl (by kernel_rfl) (by kernel_rfl) (by kernel_rfl) (fun _ _ _ _ h => h) (by kernel_rfl) _ _ _ rfl (by kernel_rfl) (fun w => by kernel_rfl) b1 o1 l.length c (j + 1) (by kernel_rfl) (by kernel_rfl) (by omega) hS ?_
      refine rgd_load 3 (some 14) rfl rfl (by kernel_rfl) (by kernel_rfl) (by kernel_rfl) (fun _ _ _ _ h => h) (by kernel_rfl) _ _ rfl Try.underlying3 rfl ⟨b1, o1 + (j + 1), none⟩ (.int .i64 x) (by kernel_rfl) (fun V h => h.1) hS ?_
      refine rgd_pure 4 (some 15) rfl rfl (.slice (some ⟨b1, o1, none⟩) l.length c) (by kernel_rfl) (by kernel_rfl) (by kernel_rfl) (fun _ _ _ _ h => h) (by kernel_rfl) (exec_is _ (.inl rfl) _ (by kernel_rfl)) hS ?_
      refine rgd_pure 5 (some 16) rfl rfl (.int .i64 ((j + 1 : Nat) : Int)) (by kernel_rfl) (by kernel_rfl) (by kernel_rfl) (fun _ _ _ _ h => h) (by kernel_rfl) (exec_is _ (.inl rfl) _ (by kernel_rfl)) hS ?_
      refine rgd_pure 6 (some 17) rfl rfl (.int .i64 (j : Int)) (by kernel_rfl) (by kernel_rfl) (by kernel_rfl) (fun _ _ _ _ h => h) (by kernel_rfl) (exec_subI _ _ _ _ rfl ((j + 1 : Nat) : Int) 1 (j : Int) (by rw [IntWalk.i64_in _ ⟨by omega, by omega⟩]; omega) (by kernel_rfl) (by kernel_rfl)) hS ?_
      refine rgd_index 7 (some 18) rfl rfl (by kernel_rfl) (by kernel_rfl) (by kernel_rfl) (fun _ _ _ _ h => h) (by kernel_rfl) _ _ _ rfl (by kernel_rfl) (fun w => by kernel_rfl) b1 o1 l.length c j (by kernel_rfl) (by kernel_rfl) (by omega) hS ?_
      refine rgd_load 8 (some 19) rfl rfl (by kernel_rfl) (by kernel_rfl) (by kernel_rfl) (fun _ _ _ _ h => h) (by kernel_rfl) _ _ rfl Try.underlying3 rfl ⟨b1, o1 + j, none⟩ (.int .i64 y) (by kernel_rfl) (fun V h => h.2.1) hS ?_
      refine rgd_call 9 (some 20) (by kernel_rfl) rfl rfl (by kernel_rfl) 50 #[.int .i64 x, .int .i64 y] (by kernel_rfl) (cmpLess_is x y wr.drew (by omega)) ?_
      rintro e w6 ⟨rfl, rfl⟩
      refine ⟨_, rfl, hS, ?_⟩
      exact wpAnyH_done (by kernel_rfl) (Eq.mp (by kernel_rfl) (KK _ hS.2.2)) _
    · have h0' : ¬ k > 0 := by omega
      go_wp2_with fail
      go_ret
      exact ⟨rfl, BB.out⟩
end Go.Proofs.Ytiadljcfcncbkaa
