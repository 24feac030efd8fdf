/- The contracts of the document's own Bytes, join, Num, Sign, Text. -/
import Derived.Test.YtkkepfbckpmbhaaCoderNum
namespace Go.Proofs.Ytkkepfbckpmbhaa
open Go Go.RowKit

set_option maxHeartbeats 1000000 in
theorem join_any (p1 p2 : Option Addr) (n1 n2 c1 c2 : Nat) (l1 l2 : List UInt8) (w : World) (h1 : Lies w p1 l1) (h2 : Lies w p2 l2) (q1 : p1 = none → l1 = [] ∧ c1 = 0) (q2 : p2 = none → l2 = [] ∧ c2 = 0) (e1 : n1 = l1.length) (e2 : n2 = l2.length)
    (hlen : n1 + n2 ≤ 140737488355328) :
    Calls Try.prog 71 #[.slice p1 n1 c1, .slice p2 n2 c2] w (RetOwn w 5 (l1 ++ l2)) := by
  have H1 := Lib.hid h1; have H2 := Lib.hid h2; have Q1 := Lib.hid q1; have Q2 := Lib.hid q2; have E1 := Lib.hid e1; have E2 := Lib.hid e2
  clear h1 h2 q1 q2 e1 e2
  go_enter Try.func71, Try.ntmps71
  go_wp2_with (at_builtin; refine wpList_bytes isU8 _ rfl (.tmp 6) (.tmp 7) rfl w.heap.size 0 [] _ rfl (World.ownsRow_nil _ _ _ _) p1 n1 c1 l1 rfl H1.out E1.out (fun e => ⟨by rw [E1.out, (Q1.out e).1]; rfl, (Q1.out e).2⟩) (by omega) (Nat.le_refl _) ?_)
  intro v1 w1 hown hb
  have hown1 : w1.ownsRow w.heap.size 5 1 v1 n1 (bys l1) := by simpa using hown
  clear hown
  have hsz := hb.size
  have H2' := Lib.hid (H2.out.below hb)
  go_wp2_with (at_builtin; refine wpList_bytes isU8 _ rfl (.tmp 9) (.tmp 10) rfl w.heap.size n1 l1 _ rfl hown1 p2 n2 c2 l2 rfl H2'.out E2.out (fun e => ⟨by rw [E2.out, (Q2.out e).1]; rfl, (Q2.out e).2⟩) (by omega) (by omega) ?_)
  intro v2 w2 hown2 hb2
  go_wp2
  go_ret
  exact RetOwn.of_own hown2 rfl (hb.trans hb2)

theorem shr_nat (P : Program) (x m : Nat) (hm : m ≤ 64) (w : World) : Sem.run P (Op.shift BinOp.shr IntKind.u64 (x : Int) IntKind.i64 (m : Int)) w = .ok (.int .u64 ((x / 2 ^ m : Nat) : Int)) w := by
  unfold Op.shift
  rw [if_neg (by omega)]
  have e2 : min m IntKind.u64.bits = m := by simp [IntKind.bits]; omega
  simp only [Int.toNat_natCast, e2]
  rw [Sem.run_pure]
  have : (x : Int).fdiv (2 ^ m) = ((x / 2 ^ m : Nat) : Int) := by
    rw [show ((2 : Int) ^ m) = ((2 ^ m : Nat) : Int) from by simp, Int.fdiv_eq_ediv_of_nonneg _ (Int.natCast_nonneg _)]; simp
  simp only [this]

/-- the first byte's ones -/
def sm (j : Nat) : Nat := 256 - 2 ^ (8 - j)
theorem sm_step (j : Nat) (h : j < 8) : ((sm j : Nat) : Int) + 128 / 2 ^ j = ((sm (j + 1) : Nat) : Int) := by
  match j, h with
  | 0, _ => decide
  | 1, _ => decide
  | 2, _ => decide
  | 3, _ => decide
  | 4, _ => decide
  | 5, _ => decide
  | 6, _ => decide
  | 7, _ => decide
theorem sm_le (j : Nat) (h : j ≤ 8) : sm j ≤ 255 := by
  have := (Cod.pow_parts j h).1
  unfold sm; omega

set_option maxHeartbeats 2000000 in
theorem refBytes_any (x : Nat) (hx : x < 18446744073709551616) (w : World) : Calls Try.prog 72 #[.int .u64 x] w (RetOwn w 5 (Cod.enc x)) := by
  have h8 := Cod.bh_le x
  obtain ⟨K, hK⟩ : ∃ K, K = Cod.bh x := ⟨_, rfl⟩
  rw [← hK] at h8
  have HK := Lib.hid hK; clear hK
  go_enter Try.func72, Try.ntmps72
  go_wp2
  go_loop [3, 9] (fun k i => ∃ j : Nat, j ≤ 9 ∧ i = .int .i64 j ∧ k = .int .i64 (min j K : Nat)) (fun _ i => 9 - (intOf i).toNat)
  case atStart => exact ⟨0, Nat.zero_le _, rfl, by simp⟩
  case round =>
    obtain ⟨j, hj, rfl, rfl⟩ := hrel
    by_cases hj8 : j < 8
    · have hd := Cod.bh_div x j hj8
      rw [← HK.out] at hd
      by_cases hjK : j < K
      · have ht : ((x : Int) / 2 ^ (7 + 7 * j) != 0) = true := by
          have h0 : ¬ x / 2 ^ (7 + 7 * j) = 0 := fun e => by have := hd.1 e; omega
          rw [bne_iff_ne]
          intro e
          exact h0 (Int.ofNat_inj.1 (by simpa using e))
        clear hd
        go_wp2
        go_round
        case rel => exact ⟨j + 1, by omega, by go_num, by congr 2; omega⟩
        case measure => simp [intOf]; omega
      · have ht : ((x : Int) / 2 ^ (7 + 7 * j) != 0) = false := by
          have h0 : x / 2 ^ (7 + 7 * j) = 0 := hd.2 (by omega)
          have : ((x : Int) / 2 ^ (7 + 7 * j)) = ((x / 2 ^ (7 + 7 * j) : Nat) : Int) := by simp
          rw [this, h0]; rfl
        clear hd
        go_wp2
        go_round
        case rel => exact ⟨j + 1, by omega, by go_num, by congr 2; omega⟩
        case measure => simp [intOf]; omega
    · by_cases hj9 : j < 9
      · go_wp2
        go_round
        case rel => exact ⟨j + 1, by omega, by go_num, by congr 2; omega⟩
        case measure => simp [intOf]; omega
      · obtain rfl : j = 9 := by omega
        have e9 : min 9 K = K := by omega
        rw [e9]; clear e9
        go_wp2
        go_loop [5, 26] (fun f i => ∃ j : Nat, j ≤ K ∧ i = .int .i64 j ∧ f = .int .i64 (sm j : Nat)) (fun _ i => K - (intOf i).toNat)
        case atStart => exact ⟨0, Nat.zero_le _, rfl, rfl⟩
        case round =>
          obtain ⟨j, hj, rfl, rfl⟩ := hrel
          by_cases hjK : j < K
          · have hs := sm_step j (by omega)
            have hl := sm_le j (by omega)
            have hl' := sm_le (j + 1) (by omega)
            obtain ⟨f, hf⟩ : ∃ f, f = sm j := ⟨_, rfl⟩
            obtain ⟨f', hf'⟩ : ∃ f', f' = sm (j + 1) := ⟨_, rfl⟩
            rw [← hf, ← hf'] at hs
            rw [← hf] at hl ⊢
            have hb1 : (0 : Int) ≤ 128 / 2 ^ j := by
              rw [show ((128 : Int) / 2 ^ j) = ((128 / 2 ^ j : Nat) : Int) from by simp]; exact Int.natCast_nonneg _
            have hb2 : (128 : Int) / 2 ^ j ≤ 255 := by rw [← hf'] at hl'; omega
            have HS := Lib.hid hs; clear hs
            have HF' := Lib.hid hf'; clear hf' hf
            go_wp2
            go_round
            case rel => exact ⟨j + 1, by omega, by go_num, by rw [← HF'.out, ← HS.out]⟩
            case measure => simp [intOf]; omega
          · obtain rfl : j = K := by omega
            have hl := sm_le j h8
            have hhd : Cod.head x j = sm j + x / 2 ^ (8 * j) := by unfold Cod.head sm; rw [Cod.pow256]
            have hh2 := Cod.head_lt x hx
            rw [← HK.out] at hh2
            obtain ⟨f, hf⟩ : ∃ f, f = sm j := ⟨_, rfl⟩
            rw [← hf] at hl hhd ⊢
            clear hf
            obtain ⟨hd, hhde⟩ : ∃ hd, hd = Cod.head x j := ⟨_, rfl⟩
            rw [← hhde] at hhd hh2
            have HHD := Lib.hid hhde; clear hhde
            have hown : (w.alloc (.cells #[.int .u8 ((hd : Nat) : Int)] 5)).ownsRow w.heap.size 5 1 (.slice (some ⟨w.heap.size, 0, none⟩) 1 1) (1 + 0) (bys ((Cod.enc x).take (1 + 0))) := by
              have := World.ownsRow_lit (base := w.heap.size) (e := 5) (size := 1) w #[.int .u8 ((hd : Nat) : Int)] 1 (Nat.le_refl _) (by decide) (by simp)
              have e1 : bys ((Cod.enc x).take (1 + 0)) = [.int .u8 ((hd : Nat) : Int)] := by
                show bys [UInt8.ofNat (Cod.head x (Cod.bh x))] = _
                simp only [bys, List.map_cons, List.map_nil, UInt8.toNat_ofNat', ← HK.out, ← HHD.out]
                rw [Nat.mod_eq_of_lt (show hd < 2 ^ 8 by omega)]
              rw [e1]; simpa using this
            have HO := Lib.hid hown; clear hown
            have hparts : (j < 8 ∧ ((f : Int) + (x : Int) / 2 ^ (8 * j)) = (hd : Int) ∧ 0 ≤ (x : Int) / 2 ^ (8 * j) ∧ (x : Int) / 2 ^ (8 * j) ≤ 255) ∨ (8 ≤ j ∧ f = hd) := by
              by_cases hj8 : j < 8
              · have hq : ((f : Int) + (x : Int) / 2 ^ (8 * j)) = (hd : Int) := by rw [hhd]; simp
                have hq0 : 0 ≤ (x : Int) / 2 ^ (8 * j) := by
                  rw [show ((x : Int) / 2 ^ (8 * j)) = ((x / 2 ^ (8 * j) : Nat) : Int) from by simp]; exact Int.natCast_nonneg _
                exact .inl ⟨hj8, hq, hq0, by omega⟩
              · have e8 : j = 8 := by omega
                have : x / 2 ^ (8 * j) = 0 := by rw [e8]; exact Nat.div_eq_of_lt (by simpa using hx)
                exact .inr ⟨by omega, by omega⟩
            clear hhd
            have HKd := Lib.hid (show j ≤ 8 from h8)
            rcases hparts with ⟨hj8, hq, hq0, hq1⟩ | ⟨hj8, rfl⟩
            all_goals
              go_wp2
              go_loopw [7, 47] (fun u i wr => ∃ m : Nat, m ≤ Cod.bh x ∧ i = .int .i64 m ∧ wr.ownsRow w.heap.size 5 1 u (1 + m) (bys ((Cod.enc x).take (1 + m))) ∧ Below w.heap.size w wr) (fun _ i _ => Cod.bh x - (intOf i).toNat)
              case atStart => exact ⟨0, Nat.zero_le _, rfl, HO.out, (Below.refl _ _).alloc (Nat.le_refl _) _⟩
              case round =>
                obtain ⟨m, hm, rfl, hown, hb⟩ := hrel
                have hmj0 : m ≤ j := by rw [HK.out]; exact hm
                have hsz := hb.size
                by_cases hmj : m < j
                · obtain ⟨d, hd⟩ : ∃ d, d = (Cod.enc x).getD (m + 1) 0 := ⟨_, rfl⟩
                  have hdx : ((x : Int) / 2 ^ (8 * (j - 1 - m)) % 256) = (d.toNat : Int) := by
                    rw [hd, Cod.enc_get x m (by rw [← HK.out]; exact hmj), UInt8.toNat_ofNat', ← HK.out]
                    simp
                  have HD := Lib.hid hd; clear hd
                  have hm1 : m + 1 ≤ Cod.bh x := by rw [← HK.out]; omega
                  have e1 : (Cod.enc x).take (1 + (m + 1)) = (Cod.enc x).take (1 + m) ++ [d] := by
                    rw [show 1 + (m + 1) = (1 + m) + 1 from by omega, take_snoc (by rw [Cod.enc_length, ← HK.out]; omega), show (1 + m) = m + 1 from by omega, ← HD.out]
                  have E1 := Lib.hid e1; clear e1
                  go_wp2_with (at_builtin; refine wpList_byte isU8 _ rfl _ _ rfl w.heap.size (1 + m) ((Cod.enc x).take (1 + m)) _ rfl hown _ d rfl rfl (by omega) (by omega) ?_)
                  intro v' w' hown' hb'
                  clear hown hdx
                  go_wp2
                  go_roundw
                  case rel => exact ⟨m + 1, hm1, by go_num, by rw [E1.out]; simpa only [Nat.add_assoc] using hown', hb.trans hb'⟩
                  case measure => simp [intOf]; omega
                · obtain rfl : m = j := by omega
                  go_wp2
                  go_ret
                  rw [List.take_of_length_le (by rw [Cod.enc_length, ← HK.out]; omega)] at hown
                  exact RetOwn.of_own hown rfl hb
end Go.Proofs.Ytkkepfbckpmbhaa
