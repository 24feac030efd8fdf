/- The statement WireEncodes, proved for every input that its row reads: part 15 of 54. -/
import Derived.Test.YtapbeokocfmlpaaDoorPackWireEncodes14
import Derived.Test.YtapbeokocfmlpaaDoorPackWireEncodes13
import Derived.Laws.BitsAllLaws
import Derived.Outline
/- The contract of utf's Valid; the example that each law of layer 3 ends with. -/
namespace Go.Proofs.YtapbeokocfmlpaaDoor
open Go Go.RowKit

namespace Utf
theorem nx_step (s : ByteArray) (p : Nat) (h : p < s.size) : 1 ≤ (nx s p).2 ∧ (nx s p).2 ≤ 4 ∧ p + (nx s p).2 ≤ s.size := by
  unfold nx
  split
  · rename_i h1
    have h2 := h1.1
    have := led_le (gt s p)
    simp only
    omega
  · simp only
    omega
theorem nx_small (s : ByteArray) (p : Nat) : -1 ≤ (nx s p).1 ∧ (nx s p).1 ≤ 1114111 := by
  unfold nx
  split
  · rename_i h1
    have h2 := h1.2.2.1
    unfold sg at h2
    simp only [decide_eq_true_eq] at h2
    simp only
    omega
  · simp only
    omega
def vd (s : ByteArray) : Nat → Nat → Bool
  | 0, _ => true
  | f + 1, p => if p < s.size then (if (nx s p).1 < 0 then false else vd s f (p + (nx s p).2)) else true
def valid (s : ByteArray) : Bool := vd s s.size 0
theorem vd_end (s : ByteArray) (f p : Nat) (h : s.size ≤ p) : vd s f p = true := by
  cases f with
  | zero => rfl
  | succ f => rw [vd, if_neg (by omega)]
theorem vd_no (s : ByteArray) (f p : Nat) (h : p < s.size) (hf : s.size ≤ p + f) (hn : (nx s p).1 < 0) : vd s f p = false := by
  cases f with
  | zero => omega
  | succ f => rw [vd, if_pos h, if_pos hn]
theorem vd_step (s : ByteArray) (f p : Nat) (h : p < s.size) (hf : s.size ≤ p + f) (hn : ¬ (nx s p).1 < 0) : vd s f p = vd s (f - 1) (p + (nx s p).2) := by
  cases f with
  | zero => omega
  | succ f => rw [vd, if_pos h, if_neg hn]; rfl
end Utf

set_option maxHeartbeats 1000000 in
theorem utfValid_is (s : ByteArray) (w : World) (hs : s.size ≤ 140737488351232) (hT : Shapes w) :
    Calls Tryd.prog 82 #[.string s] w fun e w' => e = .returned (.bool (Utf.valid s)) ∧ w = w' := by
  obtain ⟨b, hb⟩ : ∃ b, b = Utf.valid s := ⟨_, rfl⟩
  rw [← hb]
  have HB : Hid (b = Utf.vd s s.size 0) := hb
  have HT := Lib.hid hT
  clear hb hT
  go_enter Tryd.func82, Tryd.ntmps82
  go_wp2
  go_loop [3] (fun i => ∃ p f : Nat, p ≤ s.size ∧ s.size ≤ p + f ∧ i = .int .i64 p ∧ b = Utf.vd s f p) (fun i => s.size - (intOf i).toNat)
  case atStart => exact ⟨0, s.size, Nat.zero_le _, by omega, rfl, HB.out⟩
  case round =>
    obtain ⟨p, f, hp, hf, rfl, hbv⟩ := hrel
    have BV := Lib.hid hbv
    clear hbv
    by_cases hps : p < s.size
    · have hn := next_in s p w hps hs HT.out
      have hst := Utf.nx_step s p hps
      have hv := fun h => Utf.vd_no s f p hps hf h
      have hv2 := fun h => Utf.vd_step s f p hps hf h
      have HV := Lib.hid hv; have HV2 := Lib.hid hv2
      clear hv hv2
      generalize (Utf.nx s p).1 = x at hn HV HV2
      generalize (Utf.nx s p).2 = n at hn hst HV2
      obtain ⟨n1, n2, n3⟩ := hst
      have hp' : (p : Int) < s.size := by omega
      by_cases hx : x < 0
      · have HE := Lib.hid (HV.out hx)
        go_wp2_with fail
        refine hn.mono ?_
        rintro e w' ⟨rfl, rfl⟩
        clear hn
        go_wp2
        go_ret
        exact ⟨ret_bool (by rw [BV.out, HE.out]), rfl⟩
      · have HE := Lib.hid (HV2.out hx)
        go_wp2_with fail
        refine hn.mono ?_
        rintro e w' ⟨rfl, rfl⟩
        clear hn
        go_wp2
        go_round
        case rel => exact ⟨p + n, f - 1, by omega, by omega, by go_num, by rw [BV.out, HE.out]⟩
        case measure => simp [intOf]; omega
    · have HE := Lib.hid (Utf.vd_end s f p (by omega))
      have hp' : ¬ (p : Int) < s.size := by omega
      go_wp2
      go_ret
      exact ⟨ret_bool (by rw [BV.out, HE.out]), rfl⟩

theorem utfEx1 : Utf.nx ⟨#[195, 169]⟩ 0 = (233, 2) := by decide +kernel
theorem utfEx2 : Utf.valid ⟨#[97, 195, 169]⟩ = true := by decide +kernel
theorem utfEx3 : Utf.valid ⟨#[255]⟩ = false := by decide +kernel

end Go.Proofs.YtapbeokocfmlpaaDoor
/- The contracts of coder's writers: behind, cutOff, put. -/
namespace Go.Proofs.YtapbeokocfmlpaaDoor
open Go Go.RowKit

theorem take_snoc {l : List UInt8} {k : Nat} (h : k < l.length) : l.take (k + 1) = l.take k ++ [l.getD k 0] := by
  rw [List.take_succ_eq_append_getElem h]; simp [List.getD, List.getElem?_eq_getElem h]
theorem ret_int {k : IntKind} {a b : Int} (h : a = b) : Ending.returned (.int k a) = .returned (.int k b) := by rw [h]

set_option maxHeartbeats 1000000 in
theorem behind_any (x : Nat) (w : World) : Calls Tryd.prog 75 #[.int .u64 x] w fun e w' => e = .returned (.int .i64 (Cod.bh x : Nat)) ∧ w = w' := by
  go_enter Tryd.func75, Tryd.ntmps75
  go_wp2
  go_loop [4] (fun i => ∃ k : Nat, k ≤ 8 ∧ i = .int .i64 k ∧ k ≤ Cod.bh x) (fun i => 8 - (intOf i).toNat)
  case atStart => exact ⟨0, by omega, rfl, Nat.zero_le _⟩
  case round =>
    obtain ⟨k, hk, rfl, hb⟩ := hrel
    by_cases hk8 : k < 8
    · have hd := Cod.bh_div x k hk8
      have HD := Lib.hid hd; clear hd
      go_wp2
      · have ht : ((x : Int) / 2 ^ (7 + 7 * k) == 0) = true := by assumption
        have h0 : x / 2 ^ (7 + 7 * k) = 0 := Int.ofNat_inj.1 (by simpa using ht)
        go_ret
        exact ⟨ret_int (by have := HD.out.1 h0; omega), rfl⟩
      · have ht : ((x : Int) / 2 ^ (7 + 7 * k) == 0) = false := by assumption
        have h0 : ¬ x / 2 ^ (7 + 7 * k) = 0 := by
          intro e
          have : ((x : Int) / 2 ^ (7 + 7 * k)) = ((x / 2 ^ (7 + 7 * k) : Nat) : Int) := by simp
          rw [this, e] at ht; simp at ht
        go_round
        case rel => exact ⟨k + 1, by omega, by go_num, by have : ¬ Cod.bh x ≤ k := fun h => h0 (HD.out.2 h)
                                                          omega⟩
        case measure => simp [intOf]; omega
    · have := Cod.bh_le x
      go_wp2
      go_ret
      exact ⟨ret_int (by omega), rfl⟩

set_option maxHeartbeats 1000000 in
theorem cutOff_any (p : Option Addr) (n c : Nat) (hn : n ≤ c) (w : World) : Calls Tryd.prog 59 #[.slice p n c] w fun e w' => e = .returned (.slice p n n) ∧ w = w' := by
  go_enter Tryd.func59, Tryd.ntmps59
  go_wp2
  go_ret
  exact ⟨rfl, rfl⟩

theorem shl_255 (P : Program) (k : Nat) (hk : k ≤ 8) (w : World) : Sem.run P (Op.shift BinOp.shl IntKind.u8 255 IntKind.i64 (IntKind.i64.wrap (8 - (k : Int)))) w = .ok (.int .u8 ((255 * 2 ^ (8 - k) % 256 : Nat) : Int)) w := by
  have e1 : IntKind.i64.wrap (8 - (k : Int)) = ((8 - k : Nat) : Int) := by rw [IntWalk.i64_in _ (by omega)]; omega
  rw [e1]
  unfold Op.shift
  rw [if_neg (by omega)]
  simp only [Int.toNat_natCast, show min (8 - k) IntKind.u8.bits = 8 - k from by simp [IntKind.bits]]
  rw [Sem.run_pure]
  simp [IntKind.wrap_u8']
theorem shr_u64 (P : Program) (x k : Nat) (hk : k ≤ 8) (w : World) : Sem.run P (Op.shift BinOp.shr IntKind.u64 (x : Int) IntKind.i64 (IntKind.i64.wrap (8 * (k : Int)))) w = .ok (.int .u64 ((x / 2 ^ (8 * k) : Nat) : Int)) w := by
  have e1 : IntKind.i64.wrap (8 * (k : Int)) = ((8 * k : Nat) : Int) := by rw [IntWalk.i64_in _ (by omega)]; omega
  rw [e1]
  unfold Op.shift
  rw [if_neg (by omega)]
  have e2 : min (8 * k) IntKind.u64.bits = 8 * k := by simp [IntKind.bits]; omega
  simp only [Int.toNat_natCast, e2]
  rw [Sem.run_pure]
  have : (x : Int).fdiv (2 ^ (8 * k)) = ((x / 2 ^ (8 * k) : Nat) : Int) := by
    rw [show ((2 : Int) ^ (8 * k)) = ((2 ^ (8 * k) : Nat) : Int) from by simp, Int.fdiv_eq_ediv_of_nonneg _ (Int.natCast_nonneg _)]; simp
  simp only [this]

set_option maxHeartbeats 1000000 in
theorem put_any (B : Nat) (v : Value) (l : List UInt8) (x : Nat) (w : World) (hg : Grows w B 5 v l) (hB : B ≤ w.heap.size) (hx : x < 18446744073709551616) (hlen : l.length ≤ 140737488355000) :
    Calls Tryd.prog 58 #[v, .int .u64 x] w (RetGrow w B 5 (l ++ Cod.enc x)) := by
  have HG := Lib.hid hg; clear hg
  have h8 := Cod.bh_le x
  have hbe := behind_any x w
  obtain ⟨k, hk⟩ : ∃ k, k = Cod.bh x := ⟨_, rfl⟩
  rw [← hk] at hbe h8
  have HK := Lib.hid hk; clear hk
  go_enter Tryd.func58, Tryd.ntmps58
  go_wp2_with (go_at_call 75; refine hbe.mono ?_; rintro e w' ⟨rfl, rfl⟩)
  have s1 := shl_255 Tryd.prog k h8
  have s2 := shr_u64 Tryd.prog x k h8
  obtain ⟨b, hb⟩ : ∃ b, b = UInt8.ofNat (Cod.head x k) := ⟨_, rfl⟩
  have hor : bits BinOp.or IntKind.u8 (255 * 2 ^ (8 - k) % 256) (IntKind.u8.wrap ((x : Int) / 2 ^ (8 * k))) = (b.toNat : Int) := by
    have h1 := Cod.head_or x hx
    have h2 := Cod.head_lt x hx
    rw [← HK.out] at h1 h2
    rw [show ((255 : Int) * 2 ^ (8 - k) % 256) = ((255 * 2 ^ (8 - k) % 256 : Nat) : Int) from by simp, IntKind.wrap_u8', show ((x : Int) / 2 ^ (8 * k) % 256) = ((x / 2 ^ (8 * k) % 256 : Nat) : Int) from by simp,
      u8_or_nat _ _ (by omega) (by omega), h1, hb, UInt8.toNat_ofNat', Nat.mod_eq_of_lt h2]
  have HB := Lib.hid hb; clear hb
  go_region_law (refine step_byteG isU8 rfl (.tmp 9) (.tmp 19) rfl B l v (by simp [Act.eval, Act.put]) (HG.out.later (by first | exact ((Below.refl _ _).alloc (Nat.le_refl _) _).drew | exact (Below.refl _ _).drew.alloc (Nat.le_refl _) _)) ⟨w.heap.size, 0, none⟩ b (by simp [Act.eval, Act.put]) (by simp) (by omega) (by simp; omega) ?_; intro v1 w1 hown1 hb1)
  clear s1 s2 hor hbe
  have hb0 : Below B w w1 := (((Below.refl _ _).alloc hB _).drew).trans hb1
  have hown0 : w1.ownsRow B 5 1 v1 (l.length + 1 + 0) (bys (l ++ (Cod.enc x).take (1 + 0))) := by
    have : (Cod.enc x).take (1 + 0) = [b] := by rw [HB.out, HK.out]; rfl
    rw [this]; exact hown1
  clear hown1 hb1
  go_wp2
  go_loopw [0, 22] (fun u i wr => ∃ j : Nat, j ≤ k ∧ i = .int .i64 j ∧ wr.ownsRow B 5 1 u (l.length + 1 + j) (bys (l ++ (Cod.enc x).take (1 + j))) ∧ Below B w wr) (fun _ i _ => k - (intOf i).toNat)
  case atStart => exact ⟨0, Nat.zero_le _, rfl, hown0, hb0⟩
  case round =>
    clear hown0 hb0
    obtain ⟨j, hj, rfl, hown, hb⟩ := hrel
    by_cases hjk : j < k
    · have hsz := hb.size
      obtain ⟨d, hd⟩ : ∃ d, d = (Cod.enc x).getD (j + 1) 0 := ⟨_, rfl⟩
      have hdx : ((x : Int) / 2 ^ (8 * (k - 1 - j)) % 256) = (d.toNat : Int) := by
        rw [hd, Cod.enc_get x j (by rw [← HK.out]; exact hjk), UInt8.toNat_ofNat', ← HK.out]
        simp
      have HD := Lib.hid hd; clear hd
      go_wp2_with (at_builtin; refine wpList_byte isU8 _ rfl _ _ rfl B (l.length + 1 + j) (l ++ (Cod.enc x).take (1 + j)) _ rfl hown _ d rfl rfl (by omega) (by omega) ?_)
      intro v' w' hown' hb'
      clear hown hdx
      go_wp2
      go_roundw
      case rel =>
        have e1 : l ++ (Cod.enc x).take (1 + (j + 1)) = l ++ ((Cod.enc x).take (1 + j) ++ [d]) := by
          rw [show 1 + (j + 1) = (1 + j) + 1 from by omega, take_snoc (by rw [Cod.enc_length, ← HK.out]; omega), show (1 + j) = j + 1 from by omega, ← HD.out]
        exact ⟨j + 1, by omega, by go_num, by rw [e1]; simpa only [Nat.add_assoc, List.append_assoc] using hown', hb.trans hb'⟩
      case measure => simp [intOf]; omega
    · obtain rfl : j = k := by omega
      go_wp2
      go_ret
      rw [List.take_of_length_le (by rw [Cod.enc_length, ← HK.out]; omega)] at hown
      exact RetGrow.of_own hown rfl hb
end Go.Proofs.YtapbeokocfmlpaaDoor
/- The contracts of coder's Num, Sign, Text, and of the document's own. -/
namespace Go.Proofs.YtapbeokocfmlpaaDoor
open Go Go.RowKit

theorem int_range {n : Int} (h : (Lit.int .i64 n).wf = true) : -9223372036854775808 ≤ n ∧ n ≤ 9223372036854775807 := by
  simp [Lit.wf, IntKind.min, IntKind.max, IntKind.bits, IntKind.signed] at h; omega

/-- a number of either sign as one of none -/
def zz (n : Int) : Nat := if n < 0 then (2 * (-(n + 1)) + 1).toNat else (2 * n).toNat

theorem zz_lt {n : Int} (h : -9223372036854775808 ≤ n ∧ n ≤ 9223372036854775807) : zz n < 18446744073709551616 := by unfold zz; split <;> omega
theorem xor_ones (a : Nat) (h : a < 18446744073709551616) : a ^^^ 18446744073709551615 = 18446744073709551615 - a := by
  have h1 : (BitVec.ofNat 64 a ^^^ BitVec.allOnes 64).toNat = a ^^^ 18446744073709551615 := by
    rw [BitVec.toNat_xor, BitVec.toNat_ofNat, BitVec.toNat_allOnes, Nat.mod_eq_of_lt h]
  rw [← h1, BitVec.xor_allOnes, BitVec.toNat_not, BitVec.toNat_ofNat, Nat.mod_eq_of_lt h]
theorem zz_bits {n : Int} (h : -9223372036854775808 ≤ n ∧ n ≤ 9223372036854775807) :
    bits BinOp.xor IntKind.u64 (IntKind.u64.wrap (IntKind.u64.wrap n * 2)) (IntKind.u64.wrap (n / 9223372036854775808)) = (zz n : Int) := by
  simp only [IntKind.wrap_u64]
  unfold zz
  by_cases h0 : n < 0
  · rw [if_pos h0]
    have e1 : n % 18446744073709551616 * 2 % 18446744073709551616 = (((2 * n + 18446744073709551616).toNat : Nat) : Int) := by omega
    have e2 : n / 9223372036854775808 % 18446744073709551616 = ((18446744073709551615 : Nat) : Int) := by omega
    rw [e1, e2, u64_xor_nat _ _ (by omega) (by omega), xor_ones _ (by omega)]
    omega
  · rw [if_neg h0]
    have e1 : n % 18446744073709551616 * 2 % 18446744073709551616 = (((2 * n).toNat : Nat) : Int) := by omega
    have e2 : n / 9223372036854775808 % 18446744073709551616 = ((0 : Nat) : Int) := by omega
    rw [e1, e2, u64_xor_nat _ _ (by omega) (by omega), Nat.xor_zero]

set_option maxHeartbeats 1000000 in
theorem num_any (p : Option Addr) (c : Nat) (l : List UInt8) (n : Int) (w : World) (h : Lies w p l) (hp : p = none → l = []) (hlc : l.length ≤ c) (hn : (Lit.int .i64 n).wf = true) (hlen : l.length ≤ 140737488355000) :
    Calls Tryd.prog 35 #[.slice p l.length c, .int .i64 n] w (RetOwn w 5 (l ++ Cod.enc n.toNat)) := by
  have hr := int_range hn
  have hput := put_any w.heap.size (.slice p l.length l.length) l n.toNat w (.inr ⟨p, rfl, h, hp⟩) (Nat.le_refl _) (by omega) hlen
  have HP := Lib.hid hput; clear hput h hp hn
  have hcut := cutOff_any p l.length c hlc w
  by_cases h0 : n < 0
  · have e0 : n.toNat = 0 := by omega
    rw [e0] at HP ⊢
    go_enter Tryd.func35, Tryd.ntmps35
    go_wp2_with (first
      | (go_at_call 59; refine hcut.mono ?_; rintro e w' ⟨rfl, rfl⟩)
      | (go_at_call 58; refine HP.out.mono ?_; rintro e w' ⟨v', rfl, hown, hb⟩))
    go_ret
    exact ⟨v', rfl, hown, hb⟩
  · obtain ⟨m, rfl⟩ := Int.eq_ofNat_of_zero_le (show 0 ≤ n by omega)
    rw [Int.toNat_natCast] at HP ⊢
    go_enter Tryd.func35, Tryd.ntmps35
    go_wp2_with (first
      | (go_at_call 59; refine hcut.mono ?_; rintro e w' ⟨rfl, rfl⟩)
      | (go_at_call 58; refine HP.out.mono ?_; rintro e w' ⟨v', rfl, hown, hb⟩))
    go_ret
    exact ⟨v', rfl, hown, hb⟩

end Go.Proofs.YtapbeokocfmlpaaDoor
/- The contracts of the document's own Bytes, join, Num, Sign, Text. -/
namespace Go.Proofs.YtapbeokocfmlpaaDoor
open Go Go.RowKit

set_option maxHeartbeats 1000000 in
theorem join_any (p1 p2 : Option Addr) (n1 n2 c1 c2 : Nat) (l1 l2 : List UInt8) (w : World) (h1 : Lies w p1 l1) (h2 : Lies w p2 l2) (q1 : p1 = none → l1 = [] ∧ c1 = 0) (q2 : p2 = none → l2 = [] ∧ c2 = 0) (e1 : n1 = l1.length) (e2 : n2 = l2.length)
    (hlen : n1 + n2 ≤ 140737488355328) :
    Calls Tryd.prog 39 #[.slice p1 n1 c1, .slice p2 n2 c2] w (RetOwn w 5 (l1 ++ l2)) := by
  have H1 := Lib.hid h1; have H2 := Lib.hid h2; have Q1 := Lib.hid q1; have Q2 := Lib.hid q2; have E1 := Lib.hid e1; have E2 := Lib.hid e2
  clear h1 h2 q1 q2 e1 e2
  go_enter Tryd.func39, Tryd.ntmps39
  go_wp2_with (at_builtin; refine wpList_bytes isU8 _ rfl (.tmp 6) (.tmp 7) rfl w.heap.size 0 [] _ rfl (World.ownsRow_nil _ _ _ _) p1 n1 c1 l1 rfl H1.out E1.out (fun e => ⟨by rw [E1.out, (Q1.out e).1]; rfl, (Q1.out e).2⟩) (by omega) (Nat.le_refl _) ?_)
  intro v1 w1 hown hb
  have hown1 : w1.ownsRow w.heap.size 5 1 v1 n1 (bys l1) := by simpa using hown
  clear hown
  have hsz := hb.size
  have H2' := Lib.hid (H2.out.below hb)
  go_wp2_with (at_builtin; refine wpList_bytes isU8 _ rfl (.tmp 9) (.tmp 10) rfl w.heap.size n1 l1 _ rfl hown1 p2 n2 c2 l2 rfl H2'.out E2.out (fun e => ⟨by rw [E2.out, (Q2.out e).1]; rfl, (Q2.out e).2⟩) (by omega) (by omega) ?_)
  intro v2 w2 hown2 hb2
  go_wp2
  go_ret
  exact RetOwn.of_own hown2 rfl (hb.trans hb2)

theorem shr_nat (P : Program) (x m : Nat) (hm : m ≤ 64) (w : World) : Sem.run P (Op.shift BinOp.shr IntKind.u64 (x : Int) IntKind.i64 (m : Int)) w = .ok (.int .u64 ((x / 2 ^ m : Nat) : Int)) w := by
  unfold Op.shift
  rw [if_neg (by omega)]
  have e2 : min m IntKind.u64.bits = m := by simp [IntKind.bits]; omega
  simp only [Int.toNat_natCast, e2]
  rw [Sem.run_pure]
  have : (x : Int).fdiv (2 ^ m) = ((x / 2 ^ m : Nat) : Int) := by
    rw [show ((2 : Int) ^ m) = ((2 ^ m : Nat) : Int) from by simp, Int.fdiv_eq_ediv_of_nonneg _ (Int.natCast_nonneg _)]; simp
  simp only [this]

/-- the first byte's ones -/
def sm (j : Nat) : Nat := 256 - 2 ^ (8 - j)
theorem sm_step (j : Nat) (h : j < 8) : ((sm j : Nat) : Int) + 128 / 2 ^ j = ((sm (j + 1) : Nat) : Int) := by
  match j, h with
  | 0, _ => decide
  | 1, _ => decide
  | 2, _ => decide
  | 3, _ => decide
  | 4, _ => decide
  | 5, _ => decide
  | 6, _ => decide
  | 7, _ => decide
theorem sm_le (j : Nat) (h : j ≤ 8) : sm j ≤ 255 := by
  have := (Cod.pow_parts j h).1
  unfold sm; omega

set_option maxHeartbeats 2000000 in
theorem refBytes_any (x : Nat) (hx : x < 18446744073709551616) (w : World) : Calls Tryd.prog 40 #[.int .u64 x] w (RetOwn w 5 (Cod.enc x)) := by
  have h8 := Cod.bh_le x
  obtain ⟨K, hK⟩ : ∃ K, K = Cod.bh x := ⟨_, rfl⟩
  rw [← hK] at h8
  have HK := Lib.hid hK; clear hK
  go_enter Tryd.func40, Tryd.ntmps40
  go_wp2
  go_loop [3, 9] (fun k i => ∃ j : Nat, j ≤ 9 ∧ i = .int .i64 j ∧ k = .int .i64 (min j K : Nat)) (fun _ i => 9 - (intOf i).toNat)
  case atStart => exact ⟨0, Nat.zero_le _, rfl, by simp⟩
  case round =>
    obtain ⟨j, hj, rfl, rfl⟩ := hrel
    by_cases hj8 : j < 8
    · have hd := Cod.bh_div x j hj8
      rw [← HK.out] at hd
      by_cases hjK : j < K
      · have ht : ((x : Int) / 2 ^ (7 + 7 * j) != 0) = true := by
          have h0 : ¬ x / 2 ^ (7 + 7 * j) = 0 := fun e => by have := hd.1 e; omega
          rw [bne_iff_ne]
          intro e
          exact h0 (Int.ofNat_inj.1 (by simpa using e))
        clear hd
        go_wp2
        go_round
        case rel => exact ⟨j + 1, by omega, by go_num, by congr 2; omega⟩
        case measure => simp [intOf]; omega
      · have ht : ((x : Int) / 2 ^ (7 + 7 * j) != 0) = false := by
          have h0 : x / 2 ^ (7 + 7 * j) = 0 := hd.2 (by omega)
          have : ((x : Int) / 2 ^ (7 + 7 * j)) = ((x / 2 ^ (7 + 7 * j) : Nat) : Int) := by simp
          rw [this, h0]; rfl
        clear hd
        go_wp2
        go_round
        case rel => exact ⟨j + 1, by omega, by go_num, by congr 2; omega⟩
        case measure => simp [intOf]; omega
    · by_cases hj9 : j < 9
      · go_wp2
        go_round
        case rel => exact ⟨j + 1, by omega, by go_num, by congr 2; omega⟩
        case measure => simp [intOf]; omega
      · obtain rfl : j = 9 := by omega
        have e9 : min 9 K = K := by omega
        rw [e9]; clear e9
        go_wp2
        go_loop [5, 26] (fun f i => ∃ j : Nat, j ≤ K ∧ i = .int .i64 j ∧ f = .int .i64 (sm j : Nat)) (fun _ i => K - (intOf i).toNat)
        case atStart => exact ⟨0, Nat.zero_le _, rfl, rfl⟩
        case round =>
          obtain ⟨j, hj, rfl, rfl⟩ := hrel
          by_cases hjK : j < K
          · have hs := sm_step j (by omega)
            have hl := sm_le j (by omega)
            have hl' := sm_le (j + 1) (by omega)
            obtain ⟨f, hf⟩ : ∃ f, f = sm j := ⟨_, rfl⟩
            obtain ⟨f', hf'⟩ : ∃ f', f' = sm (j + 1) := ⟨_, rfl⟩
            rw [← hf, ← hf'] at hs
            rw [← hf] at hl ⊢
            have hb1 : (0 : Int) ≤ 128 / 2 ^ j := by
              rw [show ((128 : Int) / 2 ^ j) = ((128 / 2 ^ j : Nat) : Int) from by simp]; exact Int.natCast_nonneg _
            have hb2 : (128 : Int) / 2 ^ j ≤ 255 := by rw [← hf'] at hl'; omega
            have HS := Lib.hid hs; clear hs
            have HF' := Lib.hid hf'; clear hf' hf
            go_wp2
            go_round
            case rel => exact ⟨j + 1, by omega, by go_num, by rw [← HF'.out, ← HS.out]⟩
            case measure => simp [intOf]; omega
          · obtain rfl : j = K := by omega
            have hl := sm_le j h8
            have hhd : Cod.head x j = sm j + x / 2 ^ (8 * j) := by unfold Cod.head sm; rw [Cod.pow256]
            have hh2 := Cod.head_lt x hx
            rw [← HK.out] at hh2
            obtain ⟨f, hf⟩ : ∃ f, f = sm j := ⟨_, rfl⟩
            rw [← hf] at hl hhd ⊢
            clear hf
            obtain ⟨hd, hhde⟩ : ∃ hd, hd = Cod.head x j := ⟨_, rfl⟩
            rw [← hhde] at hhd hh2
            have HHD := Lib.hid hhde; clear hhde
            have hown : (w.alloc (.cells #[.int .u8 ((hd : Nat) : Int)] 5)).ownsRow w.heap.size 5 1 (.slice (some ⟨w.heap.size, 0, none⟩) 1 1) (1 + 0) (bys ((Cod.enc x).take (1 + 0))) := by
              have := World.ownsRow_lit (base := w.heap.size) (e := 5) (size := 1) w #[.int .u8 ((hd : Nat) : Int)] 1 (Nat.le_refl _) (by decide) (by simp)
              have e1 : bys ((Cod.enc x).take (1 + 0)) = [.int .u8 ((hd : Nat) : Int)] := by
                show bys [UInt8.ofNat (Cod.head x (Cod.bh x))] = _
                simp only [bys, List.map_cons, List.map_nil, UInt8.toNat_ofNat', ← HK.out, ← HHD.out]
                rw [Nat.mod_eq_of_lt (show hd < 2 ^ 8 by omega)]
              rw [e1]; simpa using this
            have HO := Lib.hid hown; clear hown
            have hparts : (j < 8 ∧ ((f : Int) + (x : Int) / 2 ^ (8 * j)) = (hd : Int) ∧ 0 ≤ (x : Int) / 2 ^ (8 * j) ∧ (x : Int) / 2 ^ (8 * j) ≤ 255) ∨ (8 ≤ j ∧ f = hd) := by
              by_cases hj8 : j < 8
              · have hq : ((f : Int) + (x : Int) / 2 ^ (8 * j)) = (hd : Int) := by rw [hhd]; simp
                have hq0 : 0 ≤ (x : Int) / 2 ^ (8 * j) := by
                  rw [show ((x : Int) / 2 ^ (8 * j)) = ((x / 2 ^ (8 * j) : Nat) : Int) from by simp]; exact Int.natCast_nonneg _
                exact .inl ⟨hj8, hq, hq0, by omega⟩
              · have e8 : j = 8 := by omega
                have : x / 2 ^ (8 * j) = 0 := by rw [e8]; exact Nat.div_eq_of_lt (by simpa using hx)
                exact .inr ⟨by omega, by omega⟩
            clear hhd
            have HKd := Lib.hid (show j ≤ 8 from h8)
            rcases hparts with ⟨hj8, hq, hq0, hq1⟩ | ⟨hj8, rfl⟩
            all_goals
              go_wp2
              go_loopw [7, 47] (fun u i wr => ∃ m : Nat, m ≤ Cod.bh x ∧ i = .int .i64 m ∧ wr.ownsRow w.heap.size 5 1 u (1 + m) (bys ((Cod.enc x).take (1 + m))) ∧ Below w.heap.size w wr) (fun _ i _ => Cod.bh x - (intOf i).toNat)
              case atStart => exact ⟨0, Nat.zero_le _, rfl, HO.out, (Below.refl _ _).alloc (Nat.le_refl _) _⟩
              case round =>
                obtain ⟨m, hm, rfl, hown, hb⟩ := hrel
                have hmj0 : m ≤ j := by rw [HK.out]; exact hm
                have hsz := hb.size
                by_cases hmj : m < j
                · obtain ⟨d, hd⟩ : ∃ d, d = (Cod.enc x).getD (m + 1) 0 := ⟨_, rfl⟩
                  have hdx : ((x : Int) / 2 ^ (8 * (j - 1 - m)) % 256) = (d.toNat : Int) := by
                    rw [hd, Cod.enc_get x m (by rw [← HK.out]; exact hmj), UInt8.toNat_ofNat', ← HK.out]
                    simp
                  have HD := Lib.hid hd; clear hd
                  have hm1 : m + 1 ≤ Cod.bh x := by rw [← HK.out]; omega
                  have e1 : (Cod.enc x).take (1 + (m + 1)) = (Cod.enc x).take (1 + m) ++ [d] := by
                    rw [show 1 + (m + 1) = (1 + m) + 1 from by omega, take_snoc (by rw [Cod.enc_length, ← HK.out]; omega), show (1 + m) = m + 1 from by omega, ← HD.out]
                  have E1 := Lib.hid e1; clear e1
                  go_wp2_with (at_builtin; refine wpList_byte isU8 _ rfl _ _ rfl w.heap.size (1 + m) ((Cod.enc x).take (1 + m)) _ rfl hown _ d rfl rfl (by omega) (by omega) ?_)
                  intro v' w' hown' hb'
                  clear hown hdx
                  go_wp2
                  go_roundw
                  case rel => exact ⟨m + 1, hm1, by go_num, by rw [E1.out]; simpa only [Nat.add_assoc] using hown', hb.trans hb'⟩
                  case measure => simp [intOf]; omega
                · obtain rfl : m = j := by omega
                  go_wp2
                  go_ret
                  rw [List.take_of_length_le (by rw [Cod.enc_length, ← HK.out]; omega)] at hown
                  exact RetOwn.of_own hown rfl hb
end Go.Proofs.YtapbeokocfmlpaaDoor
/- The contract of frame.Open. -/
namespace Go.Proofs.YtapbeokocfmlpaaDoor
open Go Go.RowKit

/-- what bytes open to, and the error's number -/
def opens (l : List UInt8) : List UInt8 × Int :=
  if l.length < 4 then ([], 4) else if l.take 4 = be4 (Frm.crc (l.drop 4)) then (l.drop 4, 0) else ([], 6)
/-- a call that hands back bytes in memory, and an error's number -/
def RetTwo (w : World) (r : List UInt8 × Int) (e : Ending) (w' : World) : Prop :=
  ∃ p c, e = .returned (.tuple #[.slice p r.1.length c, .int .i64 r.2]) ∧ r.1.length ≤ c ∧ (p = none → r.1 = [] ∧ c = 0) ∧ Lies w' p r.1 ∧ Below w.heap.size w w'
theorem RetTwo.none {w w' : World} {n : Int} {e : Ending} (he : e = .returned (.tuple #[.slice none 0 0, .int .i64 n])) (hw : Below w.heap.size w w') : RetTwo w ([], n) e w' :=
  ⟨_, _, he, Nat.le_refl _, fun _ => ⟨rfl, rfl⟩, Lies.nil _ _, hw⟩

theorem RetTwo.of_own {w w' : World} {B : Nat} {ty : TypeId} {v : Value} {n : Nat} {l : List UInt8} {k : Int} {e : Ending} (h : w'.ownsRow B ty 1 v n (bys l)) (he : e = .returned (.tuple #[v, .int .i64 k])) (hb : Below w.heap.size w w') : RetTwo w (l, k) e w' := by
  obtain ⟨rfl, p, c, rfl, h1, h2, h3, h4⟩ := own_lies h
  exact ⟨p, c, he, h1, h4, h3, hb⟩

def val (l : List UInt8) : Nat := l.foldl (fun a b => a * 256 + b.toNat) 0
theorem val_snoc (l : List UInt8) (b : UInt8) : val (l ++ [b]) = val l * 256 + b.toNat := by simp [val]
theorem val_lt (l : List UInt8) (k : Nat) (hk : k < 4) : val (l.take k) < 16777216 := by
  have h : ∀ (l : List UInt8) (k : Nat), l.length ≤ k → ∀ a, l.foldl (fun a b => a * 256 + b.toNat) a < (a + 1) * 256 ^ k := by
    intro l
    induction l with
    | nil => intro k _ a; simp; exact Nat.lt_of_lt_of_le (Nat.lt_succ_self a) (Nat.le_mul_of_pos_right _ (Nat.pos_of_ne_zero (by simp)))
    | cons b l ih =>
      intro k hk a
      match k, hk with
      | k + 1, hk =>
        simp only [List.foldl_cons]
        refine Nat.lt_of_lt_of_le (ih k (by simpa using hk) _) ?_
        have := b.toNat_lt
        rw [Nat.pow_succ, Nat.mul_comm (256 ^ k) 256, ← Nat.mul_assoc]
        exact Nat.mul_le_mul_right _ (by omega)
  have := h (l.take k) 3 (by simp; omega) 0
  unfold val
  omega

theorem or_byte {v x : Nat} (hv : v < 16777216) (hx : x < 256) : Value.int IntKind.u32 (bits BinOp.or IntKind.u32 ((v : Int) * 256) (x : Int)) = Value.int IntKind.u32 ((v * 256 + x : Nat) : Int) := by
  rw [show ((v : Int) * 256) = ((v * 256 : Nat) : Int) from by simp, u32_or_nat _ _ (by omega) (by omega), nat_join 8 _ _ (by omega) (by omega)]
theorem val_be4 (c : Nat) (hc : c < 4294967296) : val (be4 c) = c := by
  simp only [val, be4, List.foldl_cons, List.foldl_nil, UInt8.toNat_ofNat']
  omega
theorem be4_val (l : List UInt8) (h : l.length = 4) : be4 (val l) = l := by
  match l, h with
  | [a, b, c, d], _ =>
    have ha := a.toNat_lt; have hb := b.toNat_lt; have hc := c.toNat_lt; have hd := d.toNat_lt
    have e : val [a, b, c, d] = ((a.toNat * 256 + b.toNat) * 256 + c.toNat) * 256 + d.toNat := by simp [val]
    rw [e]
    unfold be4
    have q : ∀ (n : Nat) (x : UInt8), n % 256 = x.toNat → UInt8.ofNat n = x := fun n x h => by
      apply UInt8.toNat_inj.1; rw [UInt8.toNat_ofNat']; exact h
    rw [q _ a (by omega), q _ b (by omega), q _ c (by omega), q _ d (by omega)]
theorem val_take4 {l : List UInt8} (h : 4 ≤ l.length) (c : Nat) (hc : c < 4294967296) : l.take 4 = be4 c ↔ val (l.take 4) = c := by
  constructor
  · intro e; rw [e, val_be4 c hc]
  · intro e; rw [← e, be4_val _ (by simp; omega)]
theorem sum_of (p : Option Addr) (n c : Nat) (l : List UInt8) (w : World) (e : n = l.length) (h : Lies w p l) (hT : Table w) (hn : l.length ≤ 140737488355328) :
    Calls Tryd.prog 34 #[.slice p n c] w fun e w' => e = .returned (.int .u32 (Frm.crc l : Nat)) ∧ w = w' := by
  subst e; exact sum_any p c l w h hT hn

end Go.Proofs.YtapbeokocfmlpaaDoor
/- The contract of the document's own Open. -/
namespace Go.Proofs.YtapbeokocfmlpaaDoor
open Go Go.RowKit

theorem sum2_of (p : Option Addr) (n c : Nat) (l : List UInt8) (w : World) (e : n = l.length) (h : Lies w p l) (hn : l.length ≤ 140737488355328) :
    Calls Tryd.prog 33 #[.slice p n c] w fun e w' => e = .returned (.int .u32 (Frm.crc l : Nat)) ∧ w = w' := by
  subst e; exact sum2_any p c l w h hn

/-- four bytes against a sum's: the first that parts, or none -/
def Parts (x0 x1 x2 x3 s : Nat) (good : Bool) : Prop :=
  (good = false ∧ ((x0 : Int) != (s : Int) / 16777216) = true) ∨
  (good = false ∧ ((x0 : Int) != (s : Int) / 16777216) = false ∧ ((x1 : Int) != (s : Int) / 65536 % 256) = true) ∨
  (good = false ∧ ((x0 : Int) != (s : Int) / 16777216) = false ∧ ((x1 : Int) != (s : Int) / 65536 % 256) = false ∧ ((x2 : Int) != (s : Int) / 256 % 256) = true) ∨
  (good = false ∧ ((x0 : Int) != (s : Int) / 16777216) = false ∧ ((x1 : Int) != (s : Int) / 65536 % 256) = false ∧ ((x2 : Int) != (s : Int) / 256 % 256) = false ∧ ((x3 : Int) != (s : Int) % 256) = true) ∨
  (good = true ∧ ((x0 : Int) != (s : Int) / 16777216) = false ∧ ((x1 : Int) != (s : Int) / 65536 % 256) = false ∧ ((x2 : Int) != (s : Int) / 256 % 256) = false ∧ ((x3 : Int) != (s : Int) % 256) = false)

theorem parts_of (a b c d : UInt8) (s : Nat) (hs : s < 4294967296) : Parts a.toNat b.toNat c.toNat d.toNat s (decide ([a, b, c, d] = be4 s)) := by
  have ha := a.toNat_lt; have hb := b.toNat_lt; have hc := c.toNat_lt; have hd := d.toNat_lt
  have q : ∀ (x : UInt8) (n : Nat), x = UInt8.ofNat n ↔ x.toNat = n % 256 := fun x n => by
    rw [← UInt8.toNat_inj, UInt8.toNat_ofNat']
  have key : ([a, b, c, d] = be4 s) ↔ (a.toNat = s / 16777216 ∧ b.toNat = s / 65536 % 256 ∧ c.toNat = s / 256 % 256 ∧ d.toNat = s % 256) := by
    unfold be4
    simp only [List.cons.injEq, and_true, q]
    omega
  by_cases h0 : a.toNat = s / 16777216
  · by_cases h1 : b.toNat = s / 65536 % 256
    · by_cases h2 : c.toNat = s / 256 % 256
      · by_cases h3 : d.toNat = s % 256
        · rw [decide_eq_true (key.2 ⟨h0, h1, h2, h3⟩)]
          exact .inr (.inr (.inr (.inr ⟨rfl, by simp; omega, by simp; omega, by simp; omega, by simp; omega⟩)))
        · rw [decide_eq_false (fun h => h3 (key.1 h).2.2.2)]
          exact .inr (.inr (.inr (.inl ⟨rfl, by simp; omega, by simp; omega, by simp; omega, by simp; omega⟩)))
      · rw [decide_eq_false (fun h => h2 (key.1 h).2.2.1)]
        exact .inr (.inr (.inl ⟨rfl, by simp; omega, by simp; omega, by simp; omega⟩))
    · rw [decide_eq_false (fun h => h1 (key.1 h).2.1)]
      exact .inr (.inl ⟨rfl, by simp; omega, by simp; omega⟩)
  · rw [decide_eq_false (fun h => h0 (key.1 h).1)]
    exact .inl ⟨rfl, by simp; omega⟩
theorem take4 {l : List UInt8} (h : 4 ≤ l.length) : l.take 4 = [l.getD 0 0, l.getD 1 0, l.getD 2 0, l.getD 3 0] := by
  match l, h with
  | a :: b :: c :: d :: l, _ => simp

end Go.Proofs.YtapbeokocfmlpaaDoor
