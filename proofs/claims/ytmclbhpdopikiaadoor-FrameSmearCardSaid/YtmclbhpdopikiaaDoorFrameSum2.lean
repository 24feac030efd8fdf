/- The contract of the document's own sum: it is the plain sum too. -/
import Derived.Test.YtmclbhpdopikiaaDoorFrameSum
namespace Go.Proofs.YtmclbhpdopikiaaDoor
open Go Go.RowKit

theorem steps_snoc (n s : Nat) : Frm.steps (n + 1) s = Frm.step (Frm.steps n s) := by rw [Frm.steps_add n 1]; rfl
theorem step_yes {r : Nat} (hr : r < 4294967296) (ht : ((r : Int) % 2 == 1) = true) : Value.int IntKind.u32 (bits BinOp.xor IntKind.u32 ((r : Int) / 2) 3988292384) = Value.int IntKind.u32 (Frm.step r : Nat) := by
  have h1 : r % 2 = 1 := Int.ofNat_inj.1 (by simpa using ht)
  rw [show ((r : Int) / 2) = ((r / 2 : Nat) : Int) from by simp, show (3988292384 : Int) = ((3988292384 : Nat) : Int) from rfl, u32_xor_nat _ _ (by omega) (by omega)]
  simp only [Frm.step, h1, if_true, Frm.poly]
theorem step_no {r : Nat} (ht : ((r : Int) % 2 == 1) = false) : Value.int IntKind.u32 ((r : Int) / 2) = Value.int IntKind.u32 (Frm.step r : Nat) := by
  have h1 : ¬ r % 2 = 1 := by intro e; have : (r : Int) % 2 = 1 := by omega
                              rw [this] at ht; simp at ht
  simp only [Frm.step, h1, if_false]
  simp
theorem sum2_end (l : List UInt8) (k : Nat) (hk : l.length ≤ k) : bits BinOp.xor IntKind.u32 (Frm.run 4294967295 (l.take k) : Nat) 4294967295 = (Frm.crc l : Nat) := by
  rw [List.take_of_length_le hk, show (4294967295 : Int) = ((4294967295 : Nat) : Int) from rfl, u32_xor_nat _ _ (Frm.run_lt l (by omega)) (by omega)]; rfl

set_option maxHeartbeats 1000000 in
theorem sum2_any (p : Option Addr) (c : Nat) (l : List UInt8) (w : World) (h : Lies w p l) (hn : l.length ≤ 140737488355328) :
    Calls Tryd.prog 10 #[.slice p l.length c] w fun e w' => e = .returned (.int .u32 (Frm.crc l : Nat)) ∧ w = w' := by
  have H := Lib.hid h; clear h
  go_enter Tryd.func10, Tryd.ntmps10
  go_wp2
  go_loop [3, 8] (fun s i => ∃ k : Nat, k ≤ l.length ∧ i = .int .i64 k ∧ s = .int .u32 (Frm.run 0xffffffff (l.take k) : Nat)) (fun _ i => l.length - (intOf i).toNat)
  case atStart => exact ⟨0, Nat.zero_le _, rfl, rfl⟩
  case round =>
    obtain ⟨k, hk, rfl, rfl⟩ := hrel
    by_cases hlt : k < l.length
    · obtain ⟨b, o, rfl, _, hc⟩ := H.out.at (by omega)
      have hck := hc k hlt
      clear hc
      have hs0 := Frm.run_lt (l.take k) (s := 0xffffffff) (by omega)
      obtain ⟨x, hx⟩ : ∃ x : Nat, x = (l.getD k 0).toNat := ⟨_, rfl⟩
      have hx2 : x < 256 := by rw [hx]; exact UInt8.toNat_lt _
      rw [← hx] at hck
      have HX := Lib.hid hx; clear hx
      obtain ⟨s, hs⟩ : ∃ s, s = Frm.run 0xffffffff (l.take k) := ⟨_, rfl⟩
      rw [← hs] at hs0 ⊢
      have HS := Lib.hid hs; clear hs
      obtain ⟨out, ho⟩ : ∃ out, out = s ^^^ x := ⟨_, rfl⟩
      have ho2 : out < 4294967296 := by rw [ho]; exact Nat.xor_lt_two_pow (n := 32) hs0 (by omega)
      have e1 : bits BinOp.xor IntKind.u32 (s : Int) (x : Int) = (out : Int) := by
        rw [u32_xor_nat _ _ hs0 (by omega), ho]
      have HO := Lib.hid ho; clear ho
      go_wp2
      clear e1
      go_loop [3, 16] (fun s' i => ∃ j : Nat, j ≤ 8 ∧ i = .int .i64 j ∧ s' = .int .u32 (Frm.steps j out : Nat)) (fun _ i => 8 - (intOf i).toNat)
      case atStart => exact ⟨0, Nat.zero_le _, rfl, by simp [Frm.steps]⟩
      case round =>
        obtain ⟨j, hj, rfl, rfl⟩ := hrel
        have hr := Frm.steps_lt j ho2
        obtain ⟨r, hre⟩ : ∃ r, r = Frm.steps j out := ⟨_, rfl⟩
        rw [← hre] at hr ⊢
        have HR := Lib.hid hre; clear hre
        by_cases hj8 : j < 8
        · go_wp2
          · have ht : ((r : Int) % 2 == 1) = true := by assumption
            go_round
            case rel => exact ⟨j + 1, by omega, by go_num, by rw [steps_snoc, ← HR.out]; exact step_yes hr ht⟩
            case measure => simp [intOf]; omega
          · have ht : ((r : Int) % 2 == 1) = false := by assumption
            go_round
            case rel => exact ⟨j + 1, by omega, by go_num, by rw [steps_snoc, ← HR.out]; exact step_no ht⟩
            case measure => simp [intOf]; omega
        · go_wp2
          obtain rfl : j = 8 := by omega
          go_round
          case rel => exact ⟨k + 1, by omega, by go_num, by rw [HR.out, HO.out, HX.out, HS.out, take_snoc hlt, Frm.run_snoc]; rfl⟩
          case measure => simp [intOf]; omega
    · go_wp2
      go_ret
      exact ⟨ret_int (sum2_end l k (by omega)), rfl⟩
end Go.Proofs.YtmclbhpdopikiaaDoor
