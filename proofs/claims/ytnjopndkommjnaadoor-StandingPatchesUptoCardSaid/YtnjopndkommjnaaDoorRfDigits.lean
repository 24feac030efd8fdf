/- The document's Digits: any number in decimal digits. -/
import Derived.Test.YtnjopndkommjnaaDoorRgMore
import Derived.Test.YtnjopndkommjnaaDoorMem
import Derived.Lib.ItoaNum
namespace Go.Proofs.YtnjopndkommjnaaDoor
open Go Go.RowKit
set_option linter.unusedVariables false
set_option maxRecDepth 1000000

def hexT : ByteArray := ⟨#[48, 49, 50, 51, 52, 53, 54, 55, 56, 57, 97, 98, 99, 100, 101, 102]⟩
theorem hex_at (k : Nat) (h : k < 10) : hexT.extract k (k + 1) = ⟨#[UInt8.ofNat (48 + k)]⟩ := by
  have : ∀ i : Fin 10, (hexT.extract i.val (i.val + 1)).data.toList = [UInt8.ofNat (48 + i.val)] := by decide +kernel
  have h := this ⟨k, h⟩
  apply ByteArray.ext
  apply Array.toList_inj.1
  exact h
def decB (n : Nat) : ByteArray := ⟨(Lib.decDigits n).toArray⟩
theorem decB_small (n : Nat) (h : n < 10) : decB n = ⟨#[UInt8.ofNat (48 + n)]⟩ := by rw [decB, Lib.decDigits, dif_pos h]
theorem decB_big (n : Nat) (h : ¬ n < 10) : decB n = decB (n / 10) ++ ⟨#[UInt8.ofNat (48 + n % 10)]⟩ := by
  apply ByteArray.ext
  rw [ByteArray.data_append]
  show (Lib.decDigits n).toArray = (Lib.decDigits (n / 10)).toArray ++ #[UInt8.ofNat (48 + n % 10)]
  rw [Lib.decDigits, dif_neg h]
  simp
theorem decB_len : ∀ (k n : Nat), n < 10 ^ (k + 1) → (decB n).size ≤ k + 1
  | 0, n, h => by rw [decB_small n (by simpa using h)]; exact Nat.le_refl _
  | k + 1, n, h => by
    by_cases h1 : n < 10
    · rw [decB_small n h1]; show 1 ≤ _; omega
    · rw [decB_big n h1, ByteArray.size_append]
      have := decB_len k (n / 10) (by rw [Nat.pow_succ] at h; omega)
      show _ + 1 ≤ _; omega
theorem decB_size (n : Nat) (h : n ≤ 9223372036854775808) : (decB n).size ≤ 19 := decB_len 18 n (by omega)
section
variable {P : Program} {o : Oper} {a : Act}
theorem exec_quoI (t yt : TypeId) (x y : Operand) (ho : o.op = .binOp .quo t x y yt) (X Y : Nat) (hX : X ≤ 9223372036854775807) (hY : Y ≤ 9223372036854775807) (hY0 : 0 < Y) (hx : a.eval x = .int .i64 (X : Int)) (hy : a.eval y = .int .i64 (Y : Int)) (w : World) :
    (execOp a.eval o).run P w = .ok (.value (.int .i64 ((X / Y : Nat) : Int))) w := by
  have h0 : ¬ (Y : Int) = 0 := by omega
  have h4 : ¬ Y = 0 := by omega
  have h1 : (X : Int).tdiv (Y : Int) = ((X / Y : Nat) : Int) := by rw [Int.tdiv_eq_ediv_of_nonneg (by omega)]; simp
  have h2 : X / Y ≤ X := Nat.div_le_self ..
  have h3 : IntKind.i64.wrap ((X / Y : Nat) : Int) = ((X / Y : Nat) : Int) := by
    generalize X / Y = Z at h2
    rw [IntKind.wrap_i64]; omega
  unfold execOp
  simp only [ho, hx, hy]
  go_simp
  simpa using h3
theorem exec_remI (t yt : TypeId) (x y : Operand) (ho : o.op = .binOp .rem t x y yt) (X Y : Nat) (hX : X ≤ 9223372036854775807) (hY : Y ≤ 9223372036854775807) (hY0 : 0 < Y) (hx : a.eval x = .int .i64 (X : Int)) (hy : a.eval y = .int .i64 (Y : Int)) (w : World) :
    (execOp a.eval o).run P w = .ok (.value (.int .i64 ((X % Y : Nat) : Int))) w := by
  have h0 : ¬ (Y : Int) = 0 := by omega
  have h4 : ¬ Y = 0 := by omega
  have h1 : (X : Int).tmod (Y : Int) = ((X % Y : Nat) : Int) := by rw [Int.tmod_eq_emod_of_nonneg (by omega)]; simp
  have h2 := Nat.mod_lt X hY0
  have h3 : IntKind.i64.wrap ((X % Y : Nat) : Int) = ((X % Y : Nat) : Int) := by rw [IntKind.wrap_i64]; omega
  unfold execOp
  simp only [ho, hx, hy]
  go_simp
end
def DigR (w : World) (s : ByteArray) (e : Ending) (w' : World) : Prop := e = .returned (.string s) ∧ Below w.heap.size w w'
set_option maxHeartbeats 1000000 in
theorem refDigitsN_is (n : Nat) : ∀ (hn : n ≤ 9223372036854775807) (w : World), Calls Tryd.prog 41 #[.int .i64 n] w (DigR w (decB n)) := by
  induction n using Nat.strongRecOn with
  | _ n ih =>
  intro hn w
  have h0 : ¬ (n : Int) < 0 := by omega
  by_cases h : n < 10
  · have h1 : (n : Int) < 10 := by omega
    have HH := Lib.hid (hex_at n h)
    have HD := Lib.hid (decB_small n h)
    clear ih
    go_enter Tryd.func41, Tryd.ntmps41
    go_wp2
    go_ret
    exact ⟨by rw [HD.out, ← HH.out]; rfl, Below.refl _ _⟩
  · have h1 : ¬ (n : Int) < 10 := by omega
    have IH := Lib.hid (ih (n / 10) (by omega) (by omega))
    have HH := Lib.hid (hex_at (n % 10) (by omega))
    have HD := Lib.hid (decB_big n h)
    clear ih
    go_enter Tryd.func41, Tryd.ntmps41
    go_wp2_with fail
    skip
    rename_i K3 hK3
    refine rg_calm (by kernel_rfl) rfl (S := fun U => True) ?_
    refine rgd_pure 0 (some 15) rfl rfl (.int .i64 n) (by kernel_rfl) (by kernel_rfl) (by kernel_rfl) (fun _ _ _ _ h => h) (by kernel_rfl) (fun w => by kernel_rfl) trivial ?_
    refine rgd_pure 1 (some 16) rfl rfl (.int .i64 (n / 10 : Nat)) (by kernel_rfl) (by kernel_rfl) (by kernel_rfl) (fun _ _ _ _ h => h) (by kernel_rfl) (fun w => exec_quoI _ _ _ _ rfl n 10 hn (by decide) (by decide) (by kernel_rfl) (by kernel_rfl) w) trivial ?_
    refine rgd_pure 3 (some 18) rfl rfl (.int .i64 n) (by kernel_rfl) (by kernel_rfl) (by kernel_rfl) (fun _ _ _ _ h => h) (by kernel_rfl) (fun w => by kernel_rfl) trivial ?_
    refine rgd_pure 4 (some 19) rfl rfl (.int .i64 (n % 10 : Nat)) (by kernel_rfl) (by kernel_rfl) (by kernel_rfl) (fun _ _ _ _ h => h) (by kernel_rfl) (fun w => exec_remI _ _ _ _ rfl n 10 hn (by decide) (by decide) (by kernel_rfl) (by kernel_rfl) w) trivial ?_
    refine rgd_pure 5 (some 20) rfl rfl (.int .i64 n) (by kernel_rfl) (by kernel_rfl) (by kernel_rfl) (fun _ _ _ _ h => h) (by kernel_rfl) (fun w => by kernel_rfl) trivial ?_
    refine rgd_pure 6 (some 21) rfl rfl (.int .i64 (n % 10 : Nat)) (by kernel_rfl) (by kernel_rfl) (by kernel_rfl) (fun _ _ _ _ h => h) (by kernel_rfl) (fun w => exec_remI _ _ _ _ rfl n 10 hn (by decide) (by decide) (by kernel_rfl) (by kernel_rfl) w) trivial ?_
    refine rgd_pure 7 (some 22) rfl rfl (.int .i64 (n % 10 + 1 : Nat)) (by kernel_rfl) (by kernel_rfl) (by kernel_rfl) (fun _ _ _ _ h => h) (by kernel_rfl) (fun w => exec_addI _ _ _ _ rfl ((n % 10 : Nat) : Int) 1 ((n % 10 + 1 : Nat) : Int) (by rw [IntKind.wrap_i64]; omega) (by kernel_rfl) (by kernel_rfl) w) trivial ?_
    refine rgd_pure 8 (some 23) rfl rfl (.string (hexT.extract (n % 10) (n % 10 + 1))) (by kernel_rfl) (by kernel_rfl) (by kernel_rfl) (fun _ _ _ _ h => h) (by kernel_rfl) (fun w => exec_cutMid _ _ _ _ rfl Tryd.underlying9 hexT (n % 10) (n % 10 + 1) (by kernel_rfl) (by kernel_rfl) (by kernel_rfl) (by omega) (by show _ ≤ 16; omega) w) trivial ?_
    refine rgd_call 2 (some 17) (by kernel_rfl) rfl rfl (by kernel_rfl) 41 (#[.int .i64 (n / 10 : Nat)]) (by kernel_rfl) (IH.out _) ?_
    rintro _ V ⟨rfl, hb⟩
    refine ⟨_, rfl, trivial, ?_⟩
    refine rgd_pure 9 (some 24) rfl rfl (.string (decB (n / 10) ++ hexT.extract (n % 10) (n % 10 + 1))) (by kernel_rfl) (by kernel_rfl) (by kernel_rfl) (fun _ _ _ _ h => h) (by kernel_rfl) (fun w => exec_addS _ _ _ _ rfl _ _ (by kernel_rfl) (by kernel_rfl) (by rw [HH.out]; have := decB_size (n / 10) (by omega); show _ + 1 ≤ _; omega) w) trivial ?_
    refine rgd_pure 10 (some 2) rfl rfl (.string (decB (n / 10) ++ hexT.extract (n % 10) (n % 10 + 1))) (by kernel_rfl) (by kernel_rfl) (by kernel_rfl) (fun _ _ _ _ h => h) (by kernel_rfl) (fun w => by kernel_rfl) trivial ?_
    have B := Lib.hid (show Below w.heap.size w V from ⟨hb.os, hb.tape, hb.output, hb.size, hb.block⟩)
    clear hb IH
    have KE : K3 { tmps := #[.int .i64 n, undef, .string (decB (n / 10) ++ hexT.extract (n % 10) (n % 10 + 1)), .int .i64 n, .bool false, undef, undef, undef, undef, .int .i64 n, .bool false, undef, undef, undef, undef, .int .i64 n, .int .i64 (n / 10 : Nat), .string (decB (n / 10)), .int .i64 n, .int .i64 (n % 10 : Nat), .int .i64 n, .int .i64 (n % 10 : Nat), .int .i64 (n % 10 + 1 : Nat), .string (hexT.extract (n % 10) (n % 10 + 1)), .string (decB (n / 10) ++ hexT.extract (n % 10) (n % 10 + 1))], defers := [] } V := by
      refine hK3 _ _ ?_
      clear hK3
      go_wp2
      go_ret
      exact ⟨by rw [HD.out, ← HH.out]; rfl, B.out⟩
    exact wpAnyH_done (by kernel_rfl) (Eq.mp (by kernel_rfl) KE) _
/-- any int in decimal digits -/
def itoB (i : Int) : ByteArray := ⟨(Lib.itoa i).toArray⟩
theorem itoB_pos (n : Nat) : itoB n = decB n := by
  have h : ¬ ((n : Nat) : Int) < 0 := by omega
  rw [itoB, Lib.itoa, if_neg h]; rfl
theorem itoB_neg (n : Nat) (h : 0 < n) : itoB (-(n : Int)) = ⟨#[45]⟩ ++ decB n := by
  have h : (-((n : Nat) : Int)) < 0 := by omega
  apply ByteArray.ext
  rw [ByteArray.data_append]
  show (Lib.itoa (-(n : Int))).toArray = #[45] ++ (Lib.decDigits n).toArray
  rw [Lib.itoa, if_pos h]
  simp
theorem itoB_size (i : Int) (h0 : -9223372036854775808 ≤ i) (h1 : i ≤ 9223372036854775807) : (itoB i).size ≤ 20 := by
  by_cases h : i < 0
  · obtain ⟨n, rfl⟩ : ∃ n : Nat, i = -(n : Int) := ⟨i.natAbs, by omega⟩
    rw [itoB_neg n (by omega), ByteArray.size_append]
    have := decB_size n (by omega)
    show 1 + _ ≤ _; omega
  · obtain ⟨n, rfl⟩ : ∃ n : Nat, i = n := ⟨i.toNat, by omega⟩
    rw [itoB_pos]
    have := decB_size n (by omega)
    omega
set_option maxHeartbeats 1000000 in
theorem refDigits_is (i : Int) (h0 : -9223372036854775807 ≤ i) (h1 : i ≤ 9223372036854775807) (w : World) : Calls Tryd.prog 41 #[.int .i64 i] w (DigR w (itoB i)) := by
  by_cases h : i < 0
  · obtain ⟨n, rfl⟩ : ∃ n : Nat, i = -(n : Int) := ⟨i.natAbs, by omega⟩
    have DN := Lib.hid (refDigitsN_is n (by omega) w)
    have IB := Lib.hid (itoB_neg n (by omega))
    have SZ := Lib.hid (decB_size n (by omega))
    have hneg : - -(n : Int) = n := by omega
    have hnb : (n : Int) ≤ 9223372036854775807 := by omega
    have hnw : wrap64 (n : Int) = n := by unfold wrap64; omega
    have sz : ¬ 9223372036854775807 < (⟨#[45]⟩ : ByteArray).size + (decB n).size := by have := SZ.out; show ¬ _ < 1 + _; omega
    clear h0
    go_enter Tryd.func41, Tryd.ntmps41
    go_wp2_with fail
    refine DN.out.mono ?_
    rintro e w2 ⟨rfl, hb⟩
    have B := Lib.hid hb
    clear hb DN
    go_wp2
    go_ret
    exact ⟨by rw [IB.out]; rfl, B.out⟩
  · obtain ⟨n, rfl⟩ : ∃ n : Nat, i = n := ⟨i.toNat, by omega⟩
    rw [itoB_pos]
    exact refDigitsN_is n (by omega) w
def minB : ByteArray := ⟨#[45, 57, 50, 50, 51, 51, 55, 50, 48, 51, 54, 56, 53, 52, 55, 55, 53, 56, 48, 56]⟩
theorem itoB_min : itoB (-9223372036854775808) = minB := by
  have e : itoB (-9223372036854775808) = ⟨#[45]⟩ ++ decB 9223372036854775808 := itoB_neg 9223372036854775808 (by decide)
  rw [e]
  apply ByteArray.ext
  rw [ByteArray.data_append]
  show #[45] ++ (Lib.decDigits 9223372036854775808).toArray = minB.data
  simp [Lib.decDigits, minB]
end Go.Proofs.YtnjopndkommjnaaDoor
