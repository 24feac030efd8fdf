/- The statement WireTold, proved for every input that its row reads: part 16 of 54. -/
import Derived.Test.YtgcbeeokddaihaaDoorProg
import Derived.Test.YtgcbeeokddaihaaDoorMem
import Derived.Test.YtgcbeeokddaihaaDoorPackWireTold15
import Derived.Laws.BitsAllLaws
import Derived.Outline
/- Contracts of bytes.Clone and bytes.Equal over this program, by the bytes that lie there. -/
namespace Go.Proofs.YtgcbeeokddaihaaDoor
open Go Go.RowKit

theorem infoU8 : (Tryd.prog.info? 5).map (fun i => (i.zero, i.size, i.bytes)) = some (some (.int .u8 0), 1, 1) := by kernel_rfl

theorem isU8 : U8 Tryd.prog 32 5 := ⟨Tryd.underlying32, infoU8⟩

set_option maxHeartbeats 1000000 in
/-- bytes.Equal -/
theorem equal_any (p1 p2 : Option Addr) (n1 n2 c1 c2 : Nat) (l1 l2 : List UInt8) (w : World) (h1 : Lies w p1 l1) (h2 : Lies w p2 l2) (e1 : n1 = l1.length) (e2 : n2 = l2.length) :
    Calls Tryd.prog 12 #[.slice p1 n1 c1, .slice p2 n2 c2] w fun e w' => e = .returned (.bool (l1 == l2)) ∧ w = w' := by
  have k1 := h1.convert (P := Tryd.prog) n1 e1 c1 32 5 9 Tryd.underlying32 Tryd.underlying5 Tryd.underlying9
  have k2 := h2.convert (P := Tryd.prog) n2 e2 c2 32 5 9 Tryd.underlying32 Tryd.underlying5 Tryd.underlying9
  clear h1 h2 e1 e2
  go_enter Tryd.func12, Tryd.ntmps12
  go_wp2
  go_ret
  exact ⟨rfl, rfl⟩
end Go.Proofs.YtgcbeeokddaihaaDoor
/- The contracts of coder's writers: behind, cutOff, put. -/
namespace Go.Proofs.YtgcbeeokddaihaaDoor
open Go Go.RowKit

theorem take_snoc {l : List UInt8} {k : Nat} (h : k < l.length) : l.take (k + 1) = l.take k ++ [l.getD k 0] := by
  rw [List.take_succ_eq_append_getElem h]; simp [List.getD, List.getElem?_eq_getElem h]
theorem ret_int {k : IntKind} {a b : Int} (h : a = b) : Ending.returned (.int k a) = .returned (.int k b) := by rw [h]

set_option maxHeartbeats 1000000 in
theorem behind_any (x : Nat) (w : World) : Calls Tryd.prog 66 #[.int .u64 x] w fun e w' => e = .returned (.int .i64 (Cod.bh x : Nat)) ∧ w = w' := by
  go_enter Tryd.func66, Tryd.ntmps66
  go_wp2
  go_loop [4] (fun i => ∃ k : Nat, k ≤ 8 ∧ i = .int .i64 k ∧ k ≤ Cod.bh x) (fun i => 8 - (intOf i).toNat)
  case atStart => exact ⟨0, by omega, rfl, Nat.zero_le _⟩
  case round =>
    obtain ⟨k, hk, rfl, hb⟩ := hrel
    by_cases hk8 : k < 8
    · have hd := Cod.bh_div x k hk8
      have HD := Lib.hid hd; clear hd
      go_wp2
      · have ht : ((x : Int) / 2 ^ (7 + 7 * k) == 0) = true := by assumption
        have h0 : x / 2 ^ (7 + 7 * k) = 0 := Int.ofNat_inj.1 (by simpa using ht)
        go_ret
        exact ⟨ret_int (by have := HD.out.1 h0; omega), rfl⟩
      · have ht : ((x : Int) / 2 ^ (7 + 7 * k) == 0) = false := by assumption
        have h0 : ¬ x / 2 ^ (7 + 7 * k) = 0 := by
          intro e
          have : ((x : Int) / 2 ^ (7 + 7 * k)) = ((x / 2 ^ (7 + 7 * k) : Nat) : Int) := by simp
          rw [this, e] at ht; simp at ht
        go_round
        case rel => exact ⟨k + 1, by omega, by go_num, by have : ¬ Cod.bh x ≤ k := fun h => h0 (HD.out.2 h)
                                                          omega⟩
        case measure => simp [intOf]; omega
    · have := Cod.bh_le x
      go_wp2
      go_ret
      exact ⟨ret_int (by omega), rfl⟩

set_option maxHeartbeats 1000000 in
theorem cutOff_any (p : Option Addr) (n c : Nat) (hn : n ≤ c) (w : World) : Calls Tryd.prog 46 #[.slice p n c] w fun e w' => e = .returned (.slice p n n) ∧ w = w' := by
  go_enter Tryd.func46, Tryd.ntmps46
  go_wp2
  go_ret
  exact ⟨rfl, rfl⟩

theorem shl_255 (P : Program) (k : Nat) (hk : k ≤ 8) (w : World) : Sem.run P (Op.shift BinOp.shl IntKind.u8 255 IntKind.i64 (IntKind.i64.wrap (8 - (k : Int)))) w = .ok (.int .u8 ((255 * 2 ^ (8 - k) % 256 : Nat) : Int)) w := by
  have e1 : IntKind.i64.wrap (8 - (k : Int)) = ((8 - k : Nat) : Int) := by rw [IntWalk.i64_in _ (by omega)]; omega
  rw [e1]
  unfold Op.shift
  rw [if_neg (by omega)]
  simp only [Int.toNat_natCast, show min (8 - k) IntKind.u8.bits = 8 - k from by simp [IntKind.bits]]
  rw [Sem.run_pure]
  simp [IntKind.wrap_u8']
theorem shr_u64 (P : Program) (x k : Nat) (hk : k ≤ 8) (w : World) : Sem.run P (Op.shift BinOp.shr IntKind.u64 (x : Int) IntKind.i64 (IntKind.i64.wrap (8 * (k : Int)))) w = .ok (.int .u64 ((x / 2 ^ (8 * k) : Nat) : Int)) w := by
  have e1 : IntKind.i64.wrap (8 * (k : Int)) = ((8 * k : Nat) : Int) := by rw [IntWalk.i64_in _ (by omega)]; omega
  rw [e1]
  unfold Op.shift
  rw [if_neg (by omega)]
  have e2 : min (8 * k) IntKind.u64.bits = 8 * k := by simp [IntKind.bits]; omega
  simp only [Int.toNat_natCast, e2]
  rw [Sem.run_pure]
  have : (x : Int).fdiv (2 ^ (8 * k)) = ((x / 2 ^ (8 * k) : Nat) : Int) := by
    rw [show ((2 : Int) ^ (8 * k)) = ((2 ^ (8 * k) : Nat) : Int) from by simp, Int.fdiv_eq_ediv_of_nonneg _ (Int.natCast_nonneg _)]; simp
  simp only [this]

set_option maxHeartbeats 1000000 in
theorem put_any (B : Nat) (v : Value) (l : List UInt8) (x : Nat) (w : World) (hg : Grows w B 5 v l) (hB : B ≤ w.heap.size) (hx : x < 18446744073709551616) (hlen : l.length ≤ 140737488355000) :
    Calls Tryd.prog 45 #[v, .int .u64 x] w (RetGrow w B 5 (l ++ Cod.enc x)) := by
  have HG := Lib.hid hg; clear hg
  have h8 := Cod.bh_le x
  have hbe := behind_any x w
  obtain ⟨k, hk⟩ : ∃ k, k = Cod.bh x := ⟨_, rfl⟩
  rw [← hk] at hbe h8
  have HK := Lib.hid hk; clear hk
  go_enter Tryd.func45, Tryd.ntmps45
  go_wp2_with (go_at_call 66; refine hbe.mono ?_; rintro e w' ⟨rfl, rfl⟩)
  have s1 := shl_255 Tryd.prog k h8
  have s2 := shr_u64 Tryd.prog x k h8
  obtain ⟨b, hb⟩ : ∃ b, b = UInt8.ofNat (Cod.head x k) := ⟨_, rfl⟩
  have hor : bits BinOp.or IntKind.u8 (255 * 2 ^ (8 - k) % 256) (IntKind.u8.wrap ((x : Int) / 2 ^ (8 * k))) = (b.toNat : Int) := by
    have h1 := Cod.head_or x hx
    have h2 := Cod.head_lt x hx
    rw [← HK.out] at h1 h2
    rw [show ((255 : Int) * 2 ^ (8 - k) % 256) = ((255 * 2 ^ (8 - k) % 256 : Nat) : Int) from by simp, IntKind.wrap_u8', show ((x : Int) / 2 ^ (8 * k) % 256) = ((x / 2 ^ (8 * k) % 256 : Nat) : Int) from by simp,
      u8_or_nat _ _ (by omega) (by omega), h1, hb, UInt8.toNat_ofNat', Nat.mod_eq_of_lt h2]
  have HB := Lib.hid hb; clear hb
  go_region_law (refine step_byteG isU8 rfl (.tmp 9) (.tmp 19) rfl B l v (by simp [Act.eval, Act.put]) (HG.out.later (by first | exact ((Below.refl _ _).alloc (Nat.le_refl _) _).drew | exact (Below.refl _ _).drew.alloc (Nat.le_refl _) _)) ⟨w.heap.size, 0, none⟩ b (by simp [Act.eval, Act.put]) (by simp) (by omega) (by simp; omega) ?_; intro v1 w1 hown1 hb1)
  clear s1 s2 hor hbe
  have hb0 : Below B w w1 := (((Below.refl _ _).alloc hB _).drew).trans hb1
  have hown0 : w1.ownsRow B 5 1 v1 (l.length + 1 + 0) (bys (l ++ (Cod.enc x).take (1 + 0))) := by
    have : (Cod.enc x).take (1 + 0) = [b] := by rw [HB.out, HK.out]; rfl
    rw [this]; exact hown1
  clear hown1 hb1
  go_wp2
  go_loopw [0, 22] (fun u i wr => ∃ j : Nat, j ≤ k ∧ i = .int .i64 j ∧ wr.ownsRow B 5 1 u (l.length + 1 + j) (bys (l ++ (Cod.enc x).take (1 + j))) ∧ Below B w wr) (fun _ i _ => k - (intOf i).toNat)
  case atStart => exact ⟨0, Nat.zero_le _, rfl, hown0, hb0⟩
  case round =>
    clear hown0 hb0
    obtain ⟨j, hj, rfl, hown, hb⟩ := hrel
    by_cases hjk : j < k
    · have hsz := hb.size
      obtain ⟨d, hd⟩ : ∃ d, d = (Cod.enc x).getD (j + 1) 0 := ⟨_, rfl⟩
      have hdx : ((x : Int) / 2 ^ (8 * (k - 1 - j)) % 256) = (d.toNat : Int) := by
        rw [hd, Cod.enc_get x j (by rw [← HK.out]; exact hjk), UInt8.toNat_ofNat', ← HK.out]
        simp
      have HD := Lib.hid hd; clear hd
      go_wp2_with (at_builtin; refine wpList_byte isU8 _ rfl _ _ rfl B (l.length + 1 + j) (l ++ (Cod.enc x).take (1 + j)) _ rfl hown _ d rfl rfl (by omega) (by omega) ?_)
      intro v' w' hown' hb'
      clear hown hdx
      go_wp2
      go_roundw
      case rel =>
        have e1 : l ++ (Cod.enc x).take (1 + (j + 1)) = l ++ ((Cod.enc x).take (1 + j) ++ [d]) := by
          rw [show 1 + (j + 1) = (1 + j) + 1 from by omega, take_snoc (by rw [Cod.enc_length, ← HK.out]; omega), show (1 + j) = j + 1 from by omega, ← HD.out]
        exact ⟨j + 1, by omega, by go_num, by rw [e1]; simpa only [Nat.add_assoc, List.append_assoc] using hown', hb.trans hb'⟩
      case measure => simp [intOf]; omega
    · obtain rfl : j = k := by omega
      go_wp2
      go_ret
      rw [List.take_of_length_le (by rw [Cod.enc_length, ← HK.out]; omega)] at hown
      exact RetGrow.of_own hown rfl hb
end Go.Proofs.YtgcbeeokddaihaaDoor
/- The contracts of coder's Num, Sign, Text, and of the document's own. -/
namespace Go.Proofs.YtgcbeeokddaihaaDoor
open Go Go.RowKit

theorem int_range {n : Int} (h : (Lit.int .i64 n).wf = true) : -9223372036854775808 ≤ n ∧ n ≤ 9223372036854775807 := by
  simp [Lit.wf, IntKind.min, IntKind.max, IntKind.bits, IntKind.signed] at h; omega

/-- a number of either sign as one of none -/
def zz (n : Int) : Nat := if n < 0 then (2 * (-(n + 1)) + 1).toNat else (2 * n).toNat

theorem zz_lt {n : Int} (h : -9223372036854775808 ≤ n ∧ n ≤ 9223372036854775807) : zz n < 18446744073709551616 := by unfold zz; split <;> omega
theorem xor_ones (a : Nat) (h : a < 18446744073709551616) : a ^^^ 18446744073709551615 = 18446744073709551615 - a := by
  have h1 : (BitVec.ofNat 64 a ^^^ BitVec.allOnes 64).toNat = a ^^^ 18446744073709551615 := by
    rw [BitVec.toNat_xor, BitVec.toNat_ofNat, BitVec.toNat_allOnes, Nat.mod_eq_of_lt h]
  rw [← h1, BitVec.xor_allOnes, BitVec.toNat_not, BitVec.toNat_ofNat, Nat.mod_eq_of_lt h]
theorem zz_bits {n : Int} (h : -9223372036854775808 ≤ n ∧ n ≤ 9223372036854775807) :
    bits BinOp.xor IntKind.u64 (IntKind.u64.wrap (IntKind.u64.wrap n * 2)) (IntKind.u64.wrap (n / 9223372036854775808)) = (zz n : Int) := by
  simp only [IntKind.wrap_u64]
  unfold zz
  by_cases h0 : n < 0
  · rw [if_pos h0]
    have e1 : n % 18446744073709551616 * 2 % 18446744073709551616 = (((2 * n + 18446744073709551616).toNat : Nat) : Int) := by omega
    have e2 : n / 9223372036854775808 % 18446744073709551616 = ((18446744073709551615 : Nat) : Int) := by omega
    rw [e1, e2, u64_xor_nat _ _ (by omega) (by omega), xor_ones _ (by omega)]
    omega
  · rw [if_neg h0]
    have e1 : n % 18446744073709551616 * 2 % 18446744073709551616 = (((2 * n).toNat : Nat) : Int) := by omega
    have e2 : n / 9223372036854775808 % 18446744073709551616 = ((0 : Nat) : Int) := by omega
    rw [e1, e2, u64_xor_nat _ _ (by omega) (by omega), Nat.xor_zero]

set_option maxHeartbeats 1000000 in
theorem num_any (p : Option Addr) (c : Nat) (l : List UInt8) (n : Int) (w : World) (h : Lies w p l) (hp : p = none → l = []) (hlc : l.length ≤ c) (hn : (Lit.int .i64 n).wf = true) (hlen : l.length ≤ 140737488355000) :
    Calls Tryd.prog 28 #[.slice p l.length c, .int .i64 n] w (RetOwn w 5 (l ++ Cod.enc n.toNat)) := by
  have hr := int_range hn
  have hput := put_any w.heap.size (.slice p l.length l.length) l n.toNat w (.inr ⟨p, rfl, h, hp⟩) (Nat.le_refl _) (by omega) hlen
  have HP := Lib.hid hput; clear hput h hp hn
  have hcut := cutOff_any p l.length c hlc w
  by_cases h0 : n < 0
  · have e0 : n.toNat = 0 := by omega
    rw [e0] at HP ⊢
    go_enter Tryd.func28, Tryd.ntmps28
    go_wp2_with (first
      | (go_at_call 46; refine hcut.mono ?_; rintro e w' ⟨rfl, rfl⟩)
      | (go_at_call 45; refine HP.out.mono ?_; rintro e w' ⟨v', rfl, hown, hb⟩))
    go_ret
    exact ⟨v', rfl, hown, hb⟩
  · obtain ⟨m, rfl⟩ := Int.eq_ofNat_of_zero_le (show 0 ≤ n by omega)
    rw [Int.toNat_natCast] at HP ⊢
    go_enter Tryd.func28, Tryd.ntmps28
    go_wp2_with (first
      | (go_at_call 46; refine hcut.mono ?_; rintro e w' ⟨rfl, rfl⟩)
      | (go_at_call 45; refine HP.out.mono ?_; rintro e w' ⟨v', rfl, hown, hb⟩))
    go_ret
    exact ⟨v', rfl, hown, hb⟩

end Go.Proofs.YtgcbeeokddaihaaDoor
/- The contracts of the document's own Bytes, join, Num, Sign, Text. -/
namespace Go.Proofs.YtgcbeeokddaihaaDoor
open Go Go.RowKit

theorem shr_nat (P : Program) (x m : Nat) (hm : m ≤ 64) (w : World) : Sem.run P (Op.shift BinOp.shr IntKind.u64 (x : Int) IntKind.i64 (m : Int)) w = .ok (.int .u64 ((x / 2 ^ m : Nat) : Int)) w := by
  unfold Op.shift
  rw [if_neg (by omega)]
  have e2 : min m IntKind.u64.bits = m := by simp [IntKind.bits]; omega
  simp only [Int.toNat_natCast, e2]
  rw [Sem.run_pure]
  have : (x : Int).fdiv (2 ^ m) = ((x / 2 ^ m : Nat) : Int) := by
    rw [show ((2 : Int) ^ m) = ((2 ^ m : Nat) : Int) from by simp, Int.fdiv_eq_ediv_of_nonneg _ (Int.natCast_nonneg _)]; simp
  simp only [this]

/-- the first byte's ones -/
def sm (j : Nat) : Nat := 256 - 2 ^ (8 - j)
theorem sm_step (j : Nat) (h : j < 8) : ((sm j : Nat) : Int) + 128 / 2 ^ j = ((sm (j + 1) : Nat) : Int) := by
  match j, h with
  | 0, _ => decide
  | 1, _ => decide
  | 2, _ => decide
  | 3, _ => decide
  | 4, _ => decide
  | 5, _ => decide
  | 6, _ => decide
  | 7, _ => decide
theorem sm_le (j : Nat) (h : j ≤ 8) : sm j ≤ 255 := by
  have := (Cod.pow_parts j h).1
  unfold sm; omega

end Go.Proofs.YtgcbeeokddaihaaDoor
/- The contract of frame.Sum: it is the plain sum. -/
namespace Go.Proofs.YtgcbeeokddaihaaDoor
open Go Go.RowKit

/-- the table of eight, in memory -/
def Table (w : World) : Prop := ∀ i, i < 8 → w.cell? ⟨0, i, none⟩ = some (.int .u32 (Frm.left i : Nat))
theorem Table.below {w w' : World} (h : Table w) (hb : Below w.heap.size w w') : Table w' := fun i hi => by
  rw [hb.cell (p := ⟨_, i, none⟩) (World.block_lt_of_cell? w _ (h i hi))]; exact h i hi

theorem bit_and (out j : Nat) (h : out < 4294967296) : bits BinOp.and IntKind.u32 ((out : Int) / 2 ^ j) 1 = ((out / 2 ^ j % 2 : Nat) : Int) := by
  rw [show (1 : Int) = ((1 : Nat) : Int) from rfl, show ((out : Int) / 2 ^ j) = ((out / 2 ^ j : Nat) : Int) from by simp, u32_and_nat _ 1 (Nat.lt_of_le_of_lt (Nat.div_le_self _ _) h) (by omega), nat_mask1]
theorem left_lt : ∀ j, j < 8 → Frm.left j < 4294967296 := by decide
theorem tab_lt (out n s : Nat) (hs : s < 4294967296) (hn : n ≤ 8) : Frm.tab out n s < 4294967296 := by
  induction n with
  | zero => exact hs
  | succ n ih =>
    simp only [Frm.tab]
    split
    · exact Nat.xor_lt_two_pow (n := 32) (ih (by omega)) (left_lt n (by omega))
    · exact ih (by omega)
theorem tab_yes {out j s : Nat} (h : out < 256) (hj : j < 8) (hs : s < 4294967296) (ht : (bits BinOp.and IntKind.u32 ((out : Int) / 2 ^ j) 1 == 1) = true) :
    Value.int IntKind.u32 (bits BinOp.xor IntKind.u32 (Frm.tab out j s : Nat) (Frm.left j : Nat)) = Value.int IntKind.u32 (Frm.tab out (j + 1) s : Nat) := by
  rw [bit_and out j (by omega)] at ht
  have h1 : out / 2 ^ j % 2 = 1 := Int.ofNat_inj.1 (by simpa using ht)
  rw [u32_xor_nat _ _ (tab_lt out j s hs (by omega)) (left_lt j hj)]
  simp only [Frm.tab, h1, if_true]
theorem tab_no {out j s : Nat} (h : out < 256) (ht : (bits BinOp.and IntKind.u32 ((out : Int) / 2 ^ j) 1 == 1) = false) :
    Value.int IntKind.u32 (Frm.tab out j s : Nat) = Value.int IntKind.u32 (Frm.tab out (j + 1) s : Nat) := by
  rw [bit_and out j (by omega)] at ht
  have h1 : ¬ out / 2 ^ j % 2 = 1 := by intro e; rw [e] at ht; simp at ht
  simp only [Frm.tab, h1, if_false]
theorem take_snocF {l : List UInt8} {k : Nat} (h : k < l.length) : l.take (k + 1) = l.take k ++ [l.getD k 0] := by
  rw [List.take_succ_eq_append_getElem h]; simp [List.getD, List.getElem?_eq_getElem h]

theorem ret_intF {k : IntKind} {a b : Int} (h : a = b) : Ending.returned (.int k a) = .returned (.int k b) := by rw [h]
theorem sum_end (l : List UInt8) (k : Nat) (hk : l.length ≤ k) : bits BinOp.xor IntKind.u32 IntKind.u32.max (Frm.run 4294967295 (l.take k) : Nat) = (Frm.crc l : Nat) := by
  rw [List.take_of_length_le hk, show IntKind.u32.max = ((4294967295 : Nat) : Int) from rfl, u32_xor_nat _ _ (by omega) (Frm.run_lt l (by omega)), Nat.xor_comm]; rfl

set_option maxHeartbeats 1000000 in
theorem sum_any (p : Option Addr) (c : Nat) (l : List UInt8) (w : World) (h : Lies w p l) (hT : Table w) (hn : l.length ≤ 140737488355328) :
    Calls Tryd.prog 27 #[.slice p l.length c] w fun e w' => e = .returned (.int .u32 (Frm.crc l : Nat)) ∧ w = w' := by
  have H := Lib.hid h; clear h
  have HT := Lib.hid hT; clear hT
  go_enter Tryd.func27, Tryd.ntmps27
  go_wp2
  go_loop [3, 9] (fun s i => ∃ k : Nat, k ≤ l.length ∧ i = .int .i64 k ∧ s = .int .u32 (Frm.run 0xffffffff (l.take k) : Nat)) (fun _ i => l.length - (intOf i).toNat)
  case atStart => exact ⟨0, Nat.zero_le _, rfl, rfl⟩
  case round =>
    obtain ⟨k, hk, rfl, rfl⟩ := hrel
    by_cases hlt : k < l.length
    · obtain ⟨b, o, rfl, _, hc⟩ := H.out.at (by omega)
      have hck := hc k hlt
      clear hc
      have hs0 := Frm.run_lt (l.take k) (s := 0xffffffff) (by omega)
      obtain ⟨x, hx⟩ : ∃ x : Nat, x = (l.getD k 0).toNat := ⟨_, rfl⟩
      have hx2 : x < 256 := by rw [hx]; exact UInt8.toNat_lt _
      rw [← hx] at hck
      have HX := Lib.hid hx; clear hx
      obtain ⟨s, hs⟩ : ∃ s, s = Frm.run 0xffffffff (l.take k) := ⟨_, rfl⟩
      rw [← hs] at hs0 ⊢
      have HS := Lib.hid hs; clear hs
      obtain ⟨out, ho⟩ : ∃ out, out = (s &&& 255) ^^^ x := ⟨_, rfl⟩
      have ho2 : out < 256 := by rw [ho]; exact Nat.xor_lt_two_pow (n := 8) (Nat.lt_of_le_of_lt Nat.and_le_right (by omega)) (by omega)
      have e1 : bits BinOp.xor IntKind.u32 (bits BinOp.and IntKind.u32 (s : Int) 255) (x : Int) = (out : Int) := by
        rw [show (255 : Int) = ((255 : Nat) : Int) from rfl, u32_and_nat s 255 (by omega) (by omega), u32_xor_nat _ _ (Nat.lt_of_le_of_lt Nat.and_le_right (by omega)) (by omega), ho]
      have HO := Lib.hid ho; clear ho
      go_wp2
      clear e1
      go_loop [3, 22] (fun s' i => ∃ j : Nat, j ≤ 8 ∧ i = .int .i64 j ∧ s' = .int .u32 (Frm.tab out j (s / 256) : Nat)) (fun _ i => 8 - (intOf i).toNat)
      case atStart => exact ⟨0, Nat.zero_le _, rfl, by simp [Frm.tab]⟩
      case round =>
        obtain ⟨j, hj, rfl, rfl⟩ := hrel
        by_cases hj8 : j < 8
        · have hcell := HT.out j hj8
          go_wp2
          · have ht : (bits BinOp.and IntKind.u32 ((out : Int) / 2 ^ j) 1 == 1) = true := by assumption
            go_round
            case rel => exact ⟨j + 1, by omega, by go_num, tab_yes ho2 hj8 (by omega) ht⟩
            case measure => simp [intOf]; omega
          · have ht : (bits BinOp.and IntKind.u32 ((out : Int) / 2 ^ j) 1 == 1) = false := by assumption
            go_round
            case rel => exact ⟨j + 1, by omega, by go_num, tab_no ho2 ht⟩
            case measure => simp [intOf]; omega
        · go_wp2
          obtain rfl : j = 8 := by omega
          go_round
          case rel => exact ⟨k + 1, by omega, by go_num, by rw [HO.out, Frm.byte_eq s x hx2, HX.out, HS.out, take_snocF hlt, Frm.run_snoc]⟩
          case measure => simp [intOf]; omega
    · go_wp2
      go_ret
      exact ⟨ret_intF (sum_end l k (by omega)), rfl⟩
end Go.Proofs.YtgcbeeokddaihaaDoor
/- The contract of the document's own sum: it is the plain sum too. -/
namespace Go.Proofs.YtgcbeeokddaihaaDoor
open Go Go.RowKit

theorem steps_snoc (n s : Nat) : Frm.steps (n + 1) s = Frm.step (Frm.steps n s) := by rw [Frm.steps_add n 1]; rfl
theorem step_yes {r : Nat} (hr : r < 4294967296) (ht : ((r : Int) % 2 == 1) = true) : Value.int IntKind.u32 (bits BinOp.xor IntKind.u32 ((r : Int) / 2) 3988292384) = Value.int IntKind.u32 (Frm.step r : Nat) := by
  have h1 : r % 2 = 1 := Int.ofNat_inj.1 (by simpa using ht)
  rw [show ((r : Int) / 2) = ((r / 2 : Nat) : Int) from by simp, show (3988292384 : Int) = ((3988292384 : Nat) : Int) from rfl, u32_xor_nat _ _ (by omega) (by omega)]
  simp only [Frm.step, h1, if_true, Frm.poly]
theorem step_no {r : Nat} (ht : ((r : Int) % 2 == 1) = false) : Value.int IntKind.u32 ((r : Int) / 2) = Value.int IntKind.u32 (Frm.step r : Nat) := by
  have h1 : ¬ r % 2 = 1 := by intro e; have : (r : Int) % 2 = 1 := by omega
                              rw [this] at ht; simp at ht
  simp only [Frm.step, h1, if_false]
  simp
theorem sum2_end (l : List UInt8) (k : Nat) (hk : l.length ≤ k) : bits BinOp.xor IntKind.u32 (Frm.run 4294967295 (l.take k) : Nat) 4294967295 = (Frm.crc l : Nat) := by
  rw [List.take_of_length_le hk, show (4294967295 : Int) = ((4294967295 : Nat) : Int) from rfl, u32_xor_nat _ _ (Frm.run_lt l (by omega)) (by omega)]; rfl

set_option maxHeartbeats 1000000 in
theorem sum2_any (p : Option Addr) (c : Nat) (l : List UInt8) (w : World) (h : Lies w p l) (hn : l.length ≤ 140737488355328) :
    Calls Tryd.prog 23 #[.slice p l.length c] w fun e w' => e = .returned (.int .u32 (Frm.crc l : Nat)) ∧ w = w' := by
  have H := Lib.hid h; clear h
  go_enter Tryd.func23, Tryd.ntmps23
  go_wp2
  go_loop [3, 8] (fun s i => ∃ k : Nat, k ≤ l.length ∧ i = .int .i64 k ∧ s = .int .u32 (Frm.run 0xffffffff (l.take k) : Nat)) (fun _ i => l.length - (intOf i).toNat)
  case atStart => exact ⟨0, Nat.zero_le _, rfl, rfl⟩
  case round =>
    obtain ⟨k, hk, rfl, rfl⟩ := hrel
    by_cases hlt : k < l.length
    · obtain ⟨b, o, rfl, _, hc⟩ := H.out.at (by omega)
      have hck := hc k hlt
      clear hc
      have hs0 := Frm.run_lt (l.take k) (s := 0xffffffff) (by omega)
      obtain ⟨x, hx⟩ : ∃ x : Nat, x = (l.getD k 0).toNat := ⟨_, rfl⟩
      have hx2 : x < 256 := by rw [hx]; exact UInt8.toNat_lt _
      rw [← hx] at hck
      have HX := Lib.hid hx; clear hx
      obtain ⟨s, hs⟩ : ∃ s, s = Frm.run 0xffffffff (l.take k) := ⟨_, rfl⟩
      rw [← hs] at hs0 ⊢
      have HS := Lib.hid hs; clear hs
      obtain ⟨out, ho⟩ : ∃ out, out = s ^^^ x := ⟨_, rfl⟩
      have ho2 : out < 4294967296 := by rw [ho]; exact Nat.xor_lt_two_pow (n := 32) hs0 (by omega)
      have e1 : bits BinOp.xor IntKind.u32 (s : Int) (x : Int) = (out : Int) := by
        rw [u32_xor_nat _ _ hs0 (by omega), ho]
      have HO := Lib.hid ho; clear ho
      go_wp2
      clear e1
      go_loop [3, 16] (fun s' i => ∃ j : Nat, j ≤ 8 ∧ i = .int .i64 j ∧ s' = .int .u32 (Frm.steps j out : Nat)) (fun _ i => 8 - (intOf i).toNat)
      case atStart => exact ⟨0, Nat.zero_le _, rfl, by simp [Frm.steps]⟩
      case round =>
        obtain ⟨j, hj, rfl, rfl⟩ := hrel
        have hr := Frm.steps_lt j ho2
        obtain ⟨r, hre⟩ : ∃ r, r = Frm.steps j out := ⟨_, rfl⟩
        rw [← hre] at hr ⊢
        have HR := Lib.hid hre; clear hre
        by_cases hj8 : j < 8
        · go_wp2
          · have ht : ((r : Int) % 2 == 1) = true := by assumption
            go_round
            case rel => exact ⟨j + 1, by omega, by go_num, by rw [steps_snoc, ← HR.out]; exact step_yes hr ht⟩
            case measure => simp [intOf]; omega
          · have ht : ((r : Int) % 2 == 1) = false := by assumption
            go_round
            case rel => exact ⟨j + 1, by omega, by go_num, by rw [steps_snoc, ← HR.out]; exact step_no ht⟩
            case measure => simp [intOf]; omega
        · go_wp2
          obtain rfl : j = 8 := by omega
          go_round
          case rel => exact ⟨k + 1, by omega, by go_num, by rw [HR.out, HO.out, HX.out, HS.out, take_snocF hlt, Frm.run_snoc]; rfl⟩
          case measure => simp [intOf]; omega
    · go_wp2
      go_ret
      exact ⟨ret_intF (sum2_end l k (by omega)), rfl⟩
end Go.Proofs.YtgcbeeokddaihaaDoor
/- The contracts of both Seals: the sum's four bytes, and the bytes behind them. -/
namespace Go.Proofs.YtgcbeeokddaihaaDoor
open Go Go.RowKit

/-- a sum's four bytes, the highest first -/
def be4 (c : Nat) : List UInt8 := [UInt8.ofNat (c / 16777216), UInt8.ofNat (c / 65536), UInt8.ofNat (c / 256), UInt8.ofNat c]
def sealed (l : List UInt8) : List UInt8 := be4 (Frm.crc l) ++ l
theorem sealed_length (l : List UInt8) : (sealed l).length = l.length + 4 := by simp [sealed, be4]

theorem be4_at {s : Nat} {k : Nat} (hk : k < 4) : ((s : Int) / 2 ^ (8 * (3 - k)) % 256) = (((be4 s).getD k 0).toNat : Int) := by
  match k, hk with
  | 0, _ => simp [be4]
  | 1, _ => simp [be4]
  | 2, _ => simp [be4]
  | 3, _ => simp [be4]
theorem be4_snoc (s : Nat) {k : Nat} (hk : k < 4) : (be4 s).take (k + 1) = (be4 s).take k ++ [(be4 s).getD k 0] := take_snocF (by simpa [be4] using hk)

set_option maxHeartbeats 1000000 in
theorem seal_own (p : Option Addr) (c : Nat) (l : List UInt8) (w : World) (h : Lies w p l) (hp : p = none → l = [] ∧ c = 0) (hT : Table w) (hn : l.length ≤ 140737488355000) :
    Calls Tryd.prog 15 #[.slice p l.length c] w (RetOwn w 5 (sealed l)) := by
  have H := Lib.hid h; clear h
  have HT := Lib.hid hT; clear hT
  have HP := Lib.hid hp; clear hp
  go_enter Tryd.func15, Tryd.ntmps15
  go_wp2_with (first
    | (go_at_call 27; refine (sum_any _ _ _ _ H.out HT.out (by omega)).mono ?_; rintro e w' ⟨rfl, rfl⟩)
    | (at_make; refine wpList_makeBytes isU8 w rfl _ _ rfl _ _ _ (4 + l.length) rfl rfl (by omega) (by omega) ?_))
  intro v w1 hown hb
  obtain ⟨s, hs⟩ : ∃ s, s = Frm.crc l := ⟨_, rfl⟩
  have hs2 := Frm.crc_lt l
  rw [← hs] at hs2 ⊢
  have HS := Lib.hid hs; clear hs
  go_wp2
  go_loopw [4, 12] (fun v i wr => ∃ k : Nat, k ≤ 4 ∧ i = .int .i64 k ∧ wr.ownsRow w.heap.size 5 1 v k (bys ((be4 s).take k)) ∧ Below w.heap.size w wr) (fun _ i _ => 4 - (intOf i).toNat)
  case atStart => exact ⟨0, Nat.zero_le _, rfl, hown, hb⟩
  case round =>
    clear hown hb
    obtain ⟨k, hk, rfl, hown, hb⟩ := hrel
    by_cases hk4 : k < 4
    · go_wp2_with (at_builtin; refine wpList_byte isU8 _ rfl _ _ rfl w.heap.size k ((be4 s).take k) _ rfl hown _ ((be4 s).getD k 0) rfl (be4_at hk4) (by omega) hb.size ?_)
      intro v' w' hown' hb'
      clear hown
      go_wp2
      go_roundw
      case rel => exact ⟨k + 1, by omega, by go_num, by rw [be4_snoc s hk4]; exact hown', hb.trans hb'⟩
      case measure => simp [intOf]; omega
    · obtain rfl : k = 4 := by omega
      go_wp2_with (at_builtin; refine wpList_bytes isU8 _ rfl _ _ rfl w.heap.size 4 ((be4 s).take 4) _ rfl hown p l.length c l rfl (H.out.below hb) rfl (fun e => ⟨by rw [(HP.out e).1]; rfl, (HP.out e).2⟩) (by omega) hb.size ?_)
      intro v' w' hown' hb'
      go_wp2
      go_ret
      exact RetOwn.of_own (by unfold sealed; rw [← HS.out]; exact hown') rfl (hb.trans hb')
theorem seal_any (p : Option Addr) (c : Nat) (l : List UInt8) (w : World) (h : Lies w p l) (hp : p = none → l = [] ∧ c = 0) (hT : Table w) (hn : l.length ≤ 140737488355000) :
    Calls Tryd.prog 15 #[.slice p l.length c] w (RetBytes w (sealed l)) := (seal_own p c l w h hp hT hn).mono fun _ _ h => h.bytes
end Go.Proofs.YtgcbeeokddaihaaDoor
/- The contract of the document's own Seal. -/
namespace Go.Proofs.YtgcbeeokddaihaaDoor
open Go Go.RowKit

set_option maxHeartbeats 1000000 in
theorem seal2_any (p : Option Addr) (c : Nat) (l : List UInt8) (w : World) (h : Lies w p l) (hp : p = none → l = [] ∧ c = 0) (hn : l.length ≤ 140737488355000) :
    Calls Tryd.prog 13 #[.slice p l.length c] w (RetBytes w (sealed l)) := by
  have H := Lib.hid h; clear h
  have HP := Lib.hid hp; clear hp
  obtain ⟨s, hs⟩ : ∃ s, s = Frm.crc l := ⟨_, rfl⟩
  have hs2 := Frm.crc_lt l
  have hsum := sum2_any p c l w H.out (by omega)
  have hown : (w.alloc (.cells #[.int .u8 ((s : Int) / 16777216), .int .u8 ((s : Int) / 65536 % 256), .int .u8 ((s : Int) / 256 % 256), .int .u8 ((s : Int) % 256)] 5)).ownsRow w.heap.size 5 1 (.slice (some ⟨w.heap.size, 0, none⟩) 4 4) 4 (bys (be4 s)) := by
    have := World.ownsRow_lit (base := w.heap.size) (e := 5) (size := 1) w #[.int .u8 ((s : Int) / 16777216), .int .u8 ((s : Int) / 65536 % 256), .int .u8 ((s : Int) / 256 % 256), .int .u8 ((s : Int) % 256)] 4 (Nat.le_refl _) (by decide) (by simp)
    have e : ((s : Int) / 16777216) % 256 = (s : Int) / 16777216 := by omega
    simpa [bys, be4, e] using this
  rw [← hs] at hs2 hsum
  have HS := Lib.hid hs; clear hs
  go_enter Tryd.func13, Tryd.ntmps13
  go_wp2_with (first
    | (go_at_call 23; refine hsum.mono ?_; rintro e w' ⟨rfl, rfl⟩)
    | (at_builtin; refine wpList_bytes isU8 _ rfl _ _ rfl w.heap.size 4 (be4 s) _ rfl hown p l.length c l rfl (H.out.alloc _) rfl (fun e => ⟨by rw [(HP.out e).1]; rfl, (HP.out e).2⟩) (by omega) (by simp) ?_))
  intro v' w' hown' hb'
  go_wp2
  go_ret
  exact RetBytes.of_own (by unfold sealed; rw [← HS.out]; exact hown') rfl (((Below.refl _ _).alloc (Nat.le_refl _) _).trans hb')
end Go.Proofs.YtgcbeeokddaihaaDoor
