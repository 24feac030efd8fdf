/- The contracts of coder's writers: behind, cutOff, put. -/
import Derived.Test.YtffjbgbcaijlnaaDoorStd
import Derived.Test.YtffjbgbcaijlnaaDoorCoderPlain
import Derived.Laws.BitsAllLaws
import Derived.Outline
namespace Go.Proofs.YtffjbgbcaijlnaaDoor
open Go Go.RowKit

theorem take_snoc {l : List UInt8} {k : Nat} (h : k < l.length) : l.take (k + 1) = l.take k ++ [l.getD k 0] := by
  rw [List.take_succ_eq_append_getElem h]; simp [List.getD, List.getElem?_eq_getElem h]
theorem ret_int {k : IntKind} {a b : Int} (h : a = b) : Ending.returned (.int k a) = .returned (.int k b) := by rw [h]

set_option maxHeartbeats 1000000 in
theorem behind_any (x : Nat) (w : World) : Calls Tryd.prog 93 #[.int .u64 x] w fun e w' => e = .returned (.int .i64 (Cod.bh x : Nat)) ∧ w = w' := by
  go_enter Tryd.func93, Tryd.ntmps93
  go_wp2
  go_loop [4] (fun i => ∃ k : Nat, k ≤ 8 ∧ i = .int .i64 k ∧ k ≤ Cod.bh x) (fun i => 8 - (intOf i).toNat)
  case atStart => exact ⟨0, by omega, rfl, Nat.zero_le _⟩
  case round =>
    obtain ⟨k, hk, rfl, hb⟩ := hrel
    by_cases hk8 : k < 8
    · have hd := Cod.bh_div x k hk8
      have HD := Lib.hid hd; clear hd
      go_wp2
      · have ht : ((x : Int) / 2 ^ (7 + 7 * k) == 0) = true := by assumption
        have h0 : x / 2 ^ (7 + 7 * k) = 0 := Int.ofNat_inj.1 (by simpa using ht)
        go_ret
        exact ⟨ret_int (by have := HD.out.1 h0; omega), rfl⟩
      · have ht : ((x : Int) / 2 ^ (7 + 7 * k) == 0) = false := by assumption
        have h0 : ¬ x / 2 ^ (7 + 7 * k) = 0 := by
          intro e
          have : ((x : Int) / 2 ^ (7 + 7 * k)) = ((x / 2 ^ (7 + 7 * k) : Nat) : Int) := by simp
          rw [this, e] at ht; simp at ht
        go_round
        case rel => exact ⟨k + 1, by omega, by go_num, by have : ¬ Cod.bh x ≤ k := fun h => h0 (HD.out.2 h)
                                                          omega⟩
        case measure => simp [intOf]; omega
    · have := Cod.bh_le x
      go_wp2
      go_ret
      exact ⟨ret_int (by omega), rfl⟩

set_option maxHeartbeats 1000000 in
theorem cutOff_any (p : Option Addr) (n c : Nat) (hn : n ≤ c) (w : World) : Calls Tryd.prog 91 #[.slice p n c] w fun e w' => e = .returned (.slice p n n) ∧ w = w' := by
  go_enter Tryd.func91, Tryd.ntmps91
  go_wp2
  go_ret
  exact ⟨rfl, rfl⟩

theorem shl_255 (P : Program) (k : Nat) (hk : k ≤ 8) (w : World) : Sem.run P (Op.shift BinOp.shl IntKind.u8 255 IntKind.i64 (IntKind.i64.wrap (8 - (k : Int)))) w = .ok (.int .u8 ((255 * 2 ^ (8 - k) % 256 : Nat) : Int)) w := by
  have e1 : IntKind.i64.wrap (8 - (k : Int)) = ((8 - k : Nat) : Int) := by rw [IntWalk.i64_in _ (by omega)]; omega
  rw [e1]
  unfold Op.shift
  rw [if_neg (by omega)]
  simp only [Int.toNat_natCast, show min (8 - k) IntKind.u8.bits = 8 - k from by simp [IntKind.bits]]
  rw [Sem.run_pure]
  simp [IntKind.wrap_u8']
theorem shr_u64 (P : Program) (x k : Nat) (hk : k ≤ 8) (w : World) : Sem.run P (Op.shift BinOp.shr IntKind.u64 (x : Int) IntKind.i64 (IntKind.i64.wrap (8 * (k : Int)))) w = .ok (.int .u64 ((x / 2 ^ (8 * k) : Nat) : Int)) w := by
  have e1 : IntKind.i64.wrap (8 * (k : Int)) = ((8 * k : Nat) : Int) := by rw [IntWalk.i64_in _ (by omega)]; omega
  rw [e1]
  unfold Op.shift
  rw [if_neg (by omega)]
  have e2 : min (8 * k) IntKind.u64.bits = 8 * k := by simp [IntKind.bits]; omega
  simp only [Int.toNat_natCast, e2]
  rw [Sem.run_pure]
  have : (x : Int).fdiv (2 ^ (8 * k)) = ((x / 2 ^ (8 * k) : Nat) : Int) := by
    rw [show ((2 : Int) ^ (8 * k)) = ((2 ^ (8 * k) : Nat) : Int) from by simp, Int.fdiv_eq_ediv_of_nonneg _ (Int.natCast_nonneg _)]; simp
  simp only [this]

set_option maxHeartbeats 1000000 in
theorem put_any (B : Nat) (v : Value) (l : List UInt8) (x : Nat) (w : World) (hg : Grows w B 5 v l) (hB : B ≤ w.heap.size) (hx : x < 18446744073709551616) (hlen : l.length ≤ 140737488355000) :
    Calls Tryd.prog 90 #[v, .int .u64 x] w (RetGrow w B 5 (l ++ Cod.enc x)) := by
  have HG := Lib.hid hg; clear hg
  have h8 := Cod.bh_le x
  have hbe := behind_any x w
  obtain ⟨k, hk⟩ : ∃ k, k = Cod.bh x := ⟨_, rfl⟩
  rw [← hk] at hbe h8
  have HK := Lib.hid hk; clear hk
  go_enter Tryd.func90, Tryd.ntmps90
  go_wp2_with (go_at_call 93; refine hbe.mono ?_; rintro e w' ⟨rfl, rfl⟩)
  have s1 := shl_255 Tryd.prog k h8
  have s2 := shr_u64 Tryd.prog x k h8
  obtain ⟨b, hb⟩ : ∃ b, b = UInt8.ofNat (Cod.head x k) := ⟨_, rfl⟩
  have hor : bits BinOp.or IntKind.u8 (255 * 2 ^ (8 - k) % 256) (IntKind.u8.wrap ((x : Int) / 2 ^ (8 * k))) = (b.toNat : Int) := by
    have h1 := Cod.head_or x hx
    have h2 := Cod.head_lt x hx
    rw [← HK.out] at h1 h2
    rw [show ((255 : Int) * 2 ^ (8 - k) % 256) = ((255 * 2 ^ (8 - k) % 256 : Nat) : Int) from by simp, IntKind.wrap_u8', show ((x : Int) / 2 ^ (8 * k) % 256) = ((x / 2 ^ (8 * k) % 256 : Nat) : Int) from by simp,
      u8_or_nat _ _ (by omega) (by omega), h1, hb, UInt8.toNat_ofNat', Nat.mod_eq_of_lt h2]
  have HB := Lib.hid hb; clear hb
  go_region_law (refine step_byteG isU8 rfl (.tmp 9) (.tmp 19) rfl B l v (by simp [Act.eval, Act.put]) (HG.out.later (by first | exact ((Below.refl _ _).alloc (Nat.le_refl _) _).drew | exact (Below.refl _ _).drew.alloc (Nat.le_refl _) _)) ⟨w.heap.size, 0, none⟩ b (by simp [Act.eval, Act.put]) (by simp) (by omega) (by simp; omega) ?_; intro v1 w1 hown1 hb1)
  clear s1 s2 hor hbe
  have hb0 : Below B w w1 := (((Below.refl _ _).alloc hB _).drew).trans hb1
  have hown0 : w1.ownsRow B 5 1 v1 (l.length + 1 + 0) (bys (l ++ (Cod.enc x).take (1 + 0))) := by
    have : (Cod.enc x).take (1 + 0) = [b] := by rw [HB.out, HK.out]; rfl
    rw [this]; exact hown1
  clear hown1 hb1
  go_wp2
  go_loopw [0, 22] (fun u i wr => ∃ j : Nat, j ≤ k ∧ i = .int .i64 j ∧ wr.ownsRow B 5 1 u (l.length + 1 + j) (bys (l ++ (Cod.enc x).take (1 + j))) ∧ Below B w wr) (fun _ i _ => k - (intOf i).toNat)
  case atStart => exact ⟨0, Nat.zero_le _, rfl, hown0, hb0⟩
  case round =>
    clear hown0 hb0
    obtain ⟨j, hj, rfl, hown, hb⟩ := hrel
    by_cases hjk : j < k
    · have hsz := hb.size
      obtain ⟨d, hd⟩ : ∃ d, d = (Cod.enc x).getD (j + 1) 0 := ⟨_, rfl⟩
      have hdx : ((x : Int) / 2 ^ (8 * (k - 1 - j)) % 256) = (d.toNat : Int) := by
        rw [hd, Cod.enc_get x j (by rw [← HK.out]; exact hjk), UInt8.toNat_ofNat', ← HK.out]
        simp
      have HD := Lib.hid hd; clear hd
      go_wp2_with (at_builtin; refine wpList_byte isU8 _ rfl _ _ rfl B (l.length + 1 + j) (l ++ (Cod.enc x).take (1 + j)) _ rfl hown _ d rfl rfl (by omega) (by omega) ?_)
      intro v' w' hown' hb'
      clear hown hdx
      go_wp2
      go_roundw
      case rel =>
        have e1 : l ++ (Cod.enc x).take (1 + (j + 1)) = l ++ ((Cod.enc x).take (1 + j) ++ [d]) := by
          rw [show 1 + (j + 1) = (1 + j) + 1 from by omega, take_snoc (by rw [Cod.enc_length, ← HK.out]; omega), show (1 + j) = j + 1 from by omega, ← HD.out]
        exact ⟨j + 1, by omega, by go_num, by rw [e1]; simpa only [Nat.add_assoc, List.append_assoc] using hown', hb.trans hb'⟩
      case measure => simp [intOf]; omega
    · obtain rfl : j = k := by omega
      go_wp2
      go_ret
      rw [List.take_of_length_le (by rw [Cod.enc_length, ← HK.out]; omega)] at hown
      exact RetGrow.of_own hown rfl hb
end Go.Proofs.YtffjbgbcaijlnaaDoor
