/- The contract of frame.Sum: it is the plain sum. -/
import Derived.Test.YtmclbhpdopikiaaDoorStd
import Derived.Test.YtmclbhpdopikiaaDoorFramePlain
import Derived.Laws.BitsAllLaws
import Derived.Outline
namespace Go.Proofs.YtmclbhpdopikiaaDoor
open Go Go.RowKit

/-- the table of eight, in memory -/
def Table (w : World) : Prop := ∀ i, i < 8 → w.cell? ⟨0, i, none⟩ = some (.int .u32 (Frm.left i : Nat))
theorem Table.below {w w' : World} (h : Table w) (hb : Below w.heap.size w w') : Table w' := fun i hi => by
  rw [hb.cell (p := ⟨_, i, none⟩) (World.block_lt_of_cell? w _ (h i hi))]; exact h i hi

theorem bit_and (out j : Nat) (h : out < 4294967296) : bits BinOp.and IntKind.u32 ((out : Int) / 2 ^ j) 1 = ((out / 2 ^ j % 2 : Nat) : Int) := by
  rw [show (1 : Int) = ((1 : Nat) : Int) from rfl, show ((out : Int) / 2 ^ j) = ((out / 2 ^ j : Nat) : Int) from by simp, u32_and_nat _ 1 (Nat.lt_of_le_of_lt (Nat.div_le_self _ _) h) (by omega), nat_mask1]
theorem left_lt : ∀ j, j < 8 → Frm.left j < 4294967296 := by decide
theorem tab_lt (out n s : Nat) (hs : s < 4294967296) (hn : n ≤ 8) : Frm.tab out n s < 4294967296 := by
  induction n with
  | zero => exact hs
  | succ n ih =>
    simp only [Frm.tab]
    split
    · exact Nat.xor_lt_two_pow (n := 32) (ih (by omega)) (left_lt n (by omega))
    · exact ih (by omega)
theorem tab_yes {out j s : Nat} (h : out < 256) (hj : j < 8) (hs : s < 4294967296) (ht : (bits BinOp.and IntKind.u32 ((out : Int) / 2 ^ j) 1 == 1) = true) :
    Value.int IntKind.u32 (bits BinOp.xor IntKind.u32 (Frm.tab out j s : Nat) (Frm.left j : Nat)) = Value.int IntKind.u32 (Frm.tab out (j + 1) s : Nat) := by
  rw [bit_and out j (by omega)] at ht
  have h1 : out / 2 ^ j % 2 = 1 := Int.ofNat_inj.1 (by simpa using ht)
  rw [u32_xor_nat _ _ (tab_lt out j s hs (by omega)) (left_lt j hj)]
  simp only [Frm.tab, h1, if_true]
theorem tab_no {out j s : Nat} (h : out < 256) (ht : (bits BinOp.and IntKind.u32 ((out : Int) / 2 ^ j) 1 == 1) = false) :
    Value.int IntKind.u32 (Frm.tab out j s : Nat) = Value.int IntKind.u32 (Frm.tab out (j + 1) s : Nat) := by
  rw [bit_and out j (by omega)] at ht
  have h1 : ¬ out / 2 ^ j % 2 = 1 := by intro e; rw [e] at ht; simp at ht
  simp only [Frm.tab, h1, if_false]
theorem take_snoc {l : List UInt8} {k : Nat} (h : k < l.length) : l.take (k + 1) = l.take k ++ [l.getD k 0] := by
  rw [List.take_succ_eq_append_getElem h]; simp [List.getD, List.getElem?_eq_getElem h]

theorem ret_int {k : IntKind} {a b : Int} (h : a = b) : Ending.returned (.int k a) = .returned (.int k b) := by rw [h]
theorem sum_end (l : List UInt8) (k : Nat) (hk : l.length ≤ k) : bits BinOp.xor IntKind.u32 IntKind.u32.max (Frm.run 4294967295 (l.take k) : Nat) = (Frm.crc l : Nat) := by
  rw [List.take_of_length_le hk, show IntKind.u32.max = ((4294967295 : Nat) : Int) from rfl, u32_xor_nat _ _ (by omega) (Frm.run_lt l (by omega)), Nat.xor_comm]; rfl

set_option maxHeartbeats 1000000 in
theorem sum_any (p : Option Addr) (c : Nat) (l : List UInt8) (w : World) (h : Lies w p l) (hT : Table w) (hn : l.length ≤ 140737488355328) :
    Calls Tryd.prog 9 #[.slice p l.length c] w fun e w' => e = .returned (.int .u32 (Frm.crc l : Nat)) ∧ w = w' := by
  have H := Lib.hid h; clear h
  have HT := Lib.hid hT; clear hT
  go_enter Tryd.func9, Tryd.ntmps9
  go_wp2
  go_loop [3, 9] (fun s i => ∃ k : Nat, k ≤ l.length ∧ i = .int .i64 k ∧ s = .int .u32 (Frm.run 0xffffffff (l.take k) : Nat)) (fun _ i => l.length - (intOf i).toNat)
  case atStart => exact ⟨0, Nat.zero_le _, rfl, rfl⟩
  case round =>
    obtain ⟨k, hk, rfl, rfl⟩ := hrel
    by_cases hlt : k < l.length
    · obtain ⟨b, o, rfl, _, hc⟩ := H.out.at (by omega)
      have hck := hc k hlt
      clear hc
      have hs0 := Frm.run_lt (l.take k) (s := 0xffffffff) (by omega)
      obtain ⟨x, hx⟩ : ∃ x : Nat, x = (l.getD k 0).toNat := ⟨_, rfl⟩
      have hx2 : x < 256 := by rw [hx]; exact UInt8.toNat_lt _
      rw [← hx] at hck
      have HX := Lib.hid hx; clear hx
      obtain ⟨s, hs⟩ : ∃ s, s = Frm.run 0xffffffff (l.take k) := ⟨_, rfl⟩
      rw [← hs] at hs0 ⊢
      have HS := Lib.hid hs; clear hs
      obtain ⟨out, ho⟩ : ∃ out, out = (s &&& 255) ^^^ x := ⟨_, rfl⟩
      have ho2 : out < 256 := by rw [ho]; exact Nat.xor_lt_two_pow (n := 8) (Nat.lt_of_le_of_lt Nat.and_le_right (by omega)) (by omega)
      have e1 : bits BinOp.xor IntKind.u32 (bits BinOp.and IntKind.u32 (s : Int) 255) (x : Int) = (out : Int) := by
        rw [show (255 : Int) = ((255 : Nat) : Int) from rfl, u32_and_nat s 255 (by omega) (by omega), u32_xor_nat _ _ (Nat.lt_of_le_of_lt Nat.and_le_right (by omega)) (by omega), ho]
      have HO := Lib.hid ho; clear ho
      go_wp2
      clear e1
      go_loop [3, 22] (fun s' i => ∃ j : Nat, j ≤ 8 ∧ i = .int .i64 j ∧ s' = .int .u32 (Frm.tab out j (s / 256) : Nat)) (fun _ i => 8 - (intOf i).toNat)
      case atStart => exact ⟨0, Nat.zero_le _, rfl, by simp [Frm.tab]⟩
      case round =>
        obtain ⟨j, hj, rfl, rfl⟩ := hrel
        by_cases hj8 : j < 8
        · have hcell := HT.out j hj8
          go_wp2
          · have ht : (bits BinOp.and IntKind.u32 ((out : Int) / 2 ^ j) 1 == 1) = true := by assumption
            go_round
            case rel => exact ⟨j + 1, by omega, by go_num, tab_yes ho2 hj8 (by omega) ht⟩
            case measure => simp [intOf]; omega
          · have ht : (bits BinOp.and IntKind.u32 ((out : Int) / 2 ^ j) 1 == 1) = false := by assumption
            go_round
            case rel => exact ⟨j + 1, by omega, by go_num, tab_no ho2 ht⟩
            case measure => simp [intOf]; omega
        · go_wp2
          obtain rfl : j = 8 := by omega
          go_round
          case rel => exact ⟨k + 1, by omega, by go_num, by rw [HO.out, Frm.byte_eq s x hx2, HX.out, HS.out, take_snoc hlt, Frm.run_snoc]⟩
          case measure => simp [intOf]; omega
    · go_wp2
      go_ret
      exact ⟨ret_int (sum_end l k (by omega)), rfl⟩
end Go.Proofs.YtmclbhpdopikiaaDoor
