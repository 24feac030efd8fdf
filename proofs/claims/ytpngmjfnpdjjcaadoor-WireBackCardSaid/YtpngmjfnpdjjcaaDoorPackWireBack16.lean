/- The statement WireBack, proved for every input that its row reads: part 16 of 54. -/
import Derived.Test.YtpngmjfnpdjjcaaDoorPackWireBack15
/- The contract of utf's Valid; the example that each law of layer 3 ends with. -/
namespace Go.Proofs.YtpngmjfnpdjjcaaDoor
open Go Go.RowKit

namespace Utf
theorem nx_step (s : ByteArray) (p : Nat) (h : p < s.size) : 1 ≤ (nx s p).2 ∧ (nx s p).2 ≤ 4 ∧ p + (nx s p).2 ≤ s.size := by
  unfold nx
  split
  · rename_i h1
    have h2 := h1.1
    have := led_le (gt s p)
    simp only
    omega
  · simp only
    omega
theorem nx_small (s : ByteArray) (p : Nat) : -1 ≤ (nx s p).1 ∧ (nx s p).1 ≤ 1114111 := by
  unfold nx
  split
  · rename_i h1
    have h2 := h1.2.2.1
    unfold sg at h2
    simp only [decide_eq_true_eq] at h2
    simp only
    omega
  · simp only
    omega
def vd (s : ByteArray) : Nat → Nat → Bool
  | 0, _ => true
  | f + 1, p => if p < s.size then (if (nx s p).1 < 0 then false else vd s f (p + (nx s p).2)) else true
def valid (s : ByteArray) : Bool := vd s s.size 0
theorem vd_end (s : ByteArray) (f p : Nat) (h : s.size ≤ p) : vd s f p = true := by
  cases f with
  | zero => rfl
  | succ f => rw [vd, if_neg (by omega)]
theorem vd_no (s : ByteArray) (f p : Nat) (h : p < s.size) (hf : s.size ≤ p + f) (hn : (nx s p).1 < 0) : vd s f p = false := by
  cases f with
  | zero => omega
  | succ f => rw [vd, if_pos h, if_pos hn]
theorem vd_step (s : ByteArray) (f p : Nat) (h : p < s.size) (hf : s.size ≤ p + f) (hn : ¬ (nx s p).1 < 0) : vd s f p = vd s (f - 1) (p + (nx s p).2) := by
  cases f with
  | zero => omega
  | succ f => rw [vd, if_pos h, if_neg hn]; rfl
end Utf

set_option maxHeartbeats 1000000 in
theorem utfValid_is (s : ByteArray) (w : World) (hs : s.size ≤ 140737488351232) (hT : Shapes w) :
    Calls Tryd.prog 76 #[.string s] w fun e w' => e = .returned (.bool (Utf.valid s)) ∧ w = w' := by
  obtain ⟨b, hb⟩ : ∃ b, b = Utf.valid s := ⟨_, rfl⟩
  rw [← hb]
  have HB : Hid (b = Utf.vd s s.size 0) := hb
  have HT := Lib.hid hT
  clear hb hT
  go_enter Tryd.func76, Tryd.ntmps76
  go_wp2
  go_loop [3] (fun i => ∃ p f : Nat, p ≤ s.size ∧ s.size ≤ p + f ∧ i = .int .i64 p ∧ b = Utf.vd s f p) (fun i => s.size - (intOf i).toNat)
  case atStart => exact ⟨0, s.size, Nat.zero_le _, by omega, rfl, HB.out⟩
  case round =>
    obtain ⟨p, f, hp, hf, rfl, hbv⟩ := hrel
    have BV := Lib.hid hbv
    clear hbv
    by_cases hps : p < s.size
    · have hn := next_in s p w hps hs HT.out
      have hst := Utf.nx_step s p hps
      have hv := fun h => Utf.vd_no s f p hps hf h
      have hv2 := fun h => Utf.vd_step s f p hps hf h
      have HV := Lib.hid hv; have HV2 := Lib.hid hv2
      clear hv hv2
      generalize (Utf.nx s p).1 = x at hn HV HV2
      generalize (Utf.nx s p).2 = n at hn hst HV2
      obtain ⟨n1, n2, n3⟩ := hst
      have hp' : (p : Int) < s.size := by omega
      by_cases hx : x < 0
      · have HE := Lib.hid (HV.out hx)
        go_wp2_with fail
        refine hn.mono ?_
        rintro e w' ⟨rfl, rfl⟩
        clear hn
        go_wp2
        go_ret
        exact ⟨ret_bool (by rw [BV.out, HE.out]), rfl⟩
      · have HE := Lib.hid (HV2.out hx)
        go_wp2_with fail
        refine hn.mono ?_
        rintro e w' ⟨rfl, rfl⟩
        clear hn
        go_wp2
        go_round
        case rel => exact ⟨p + n, f - 1, by omega, by omega, by go_num, by rw [BV.out, HE.out]⟩
        case measure => simp [intOf]; omega
    · have HE := Lib.hid (Utf.vd_end s f p (by omega))
      have hp' : ¬ (p : Int) < s.size := by omega
      go_wp2
      go_ret
      exact ⟨ret_bool (by rw [BV.out, HE.out]), rfl⟩

theorem utfEx1 : Utf.nx ⟨#[195, 169]⟩ 0 = (233, 2) := by decide +kernel
theorem utfEx2 : Utf.valid ⟨#[97, 195, 169]⟩ = true := by decide +kernel
theorem utfEx3 : Utf.valid ⟨#[255]⟩ = false := by decide +kernel

end Go.Proofs.YtpngmjfnpdjjcaaDoor
/- The contracts of coder's Num, Sign, Text, and of the document's own. -/
namespace Go.Proofs.YtpngmjfnpdjjcaaDoor
open Go Go.RowKit

theorem int_range {n : Int} (h : (Lit.int .i64 n).wf = true) : -9223372036854775808 ≤ n ∧ n ≤ 9223372036854775807 := by
  simp [Lit.wf, IntKind.min, IntKind.max, IntKind.bits, IntKind.signed] at h; omega

/-- a number of either sign as one of none -/
def zz (n : Int) : Nat := if n < 0 then (2 * (-(n + 1)) + 1).toNat else (2 * n).toNat

theorem zz_lt {n : Int} (h : -9223372036854775808 ≤ n ∧ n ≤ 9223372036854775807) : zz n < 18446744073709551616 := by unfold zz; split <;> omega
theorem xor_ones (a : Nat) (h : a < 18446744073709551616) : a ^^^ 18446744073709551615 = 18446744073709551615 - a := by
  have h1 : (BitVec.ofNat 64 a ^^^ BitVec.allOnes 64).toNat = a ^^^ 18446744073709551615 := by
    rw [BitVec.toNat_xor, BitVec.toNat_ofNat, BitVec.toNat_allOnes, Nat.mod_eq_of_lt h]
  rw [← h1, BitVec.xor_allOnes, BitVec.toNat_not, BitVec.toNat_ofNat, Nat.mod_eq_of_lt h]
theorem zz_bits {n : Int} (h : -9223372036854775808 ≤ n ∧ n ≤ 9223372036854775807) :
    bits BinOp.xor IntKind.u64 (IntKind.u64.wrap (IntKind.u64.wrap n * 2)) (IntKind.u64.wrap (n / 9223372036854775808)) = (zz n : Int) := by
  simp only [IntKind.wrap_u64]
  unfold zz
  by_cases h0 : n < 0
  · rw [if_pos h0]
    have e1 : n % 18446744073709551616 * 2 % 18446744073709551616 = (((2 * n + 18446744073709551616).toNat : Nat) : Int) := by omega
    have e2 : n / 9223372036854775808 % 18446744073709551616 = ((18446744073709551615 : Nat) : Int) := by omega
    rw [e1, e2, u64_xor_nat _ _ (by omega) (by omega), xor_ones _ (by omega)]
    omega
  · rw [if_neg h0]
    have e1 : n % 18446744073709551616 * 2 % 18446744073709551616 = (((2 * n).toNat : Nat) : Int) := by omega
    have e2 : n / 9223372036854775808 % 18446744073709551616 = ((0 : Nat) : Int) := by omega
    rw [e1, e2, u64_xor_nat _ _ (by omega) (by omega), Nat.xor_zero]

set_option maxHeartbeats 1000000 in
theorem num_any (p : Option Addr) (c : Nat) (l : List UInt8) (n : Int) (w : World) (h : Lies w p l) (hp : p = none → l = []) (hlc : l.length ≤ c) (hn : (Lit.int .i64 n).wf = true) (hlen : l.length ≤ 140737488355000) :
    Calls Tryd.prog 27 #[.slice p l.length c, .int .i64 n] w (RetOwn w 5 (l ++ Cod.enc n.toNat)) := by
  have hr := int_range hn
  have hput := put_any w.heap.size (.slice p l.length l.length) l n.toNat w (.inr ⟨p, rfl, h, hp⟩) (Nat.le_refl _) (by omega) hlen
  have HP := Lib.hid hput; clear hput h hp hn
  have hcut := cutOff_any p l.length c hlc w
  by_cases h0 : n < 0
  · have e0 : n.toNat = 0 := by omega
    rw [e0] at HP ⊢
    go_enter Tryd.func27, Tryd.ntmps27
    go_wp2_with (first
      | (go_at_call 45; refine hcut.mono ?_; rintro e w' ⟨rfl, rfl⟩)
      | (go_at_call 44; refine HP.out.mono ?_; rintro e w' ⟨v', rfl, hown, hb⟩))
    go_ret
    exact ⟨v', rfl, hown, hb⟩
  · obtain ⟨m, rfl⟩ := Int.eq_ofNat_of_zero_le (show 0 ≤ n by omega)
    rw [Int.toNat_natCast] at HP ⊢
    go_enter Tryd.func27, Tryd.ntmps27
    go_wp2_with (first
      | (go_at_call 45; refine hcut.mono ?_; rintro e w' ⟨rfl, rfl⟩)
      | (go_at_call 44; refine HP.out.mono ?_; rintro e w' ⟨v', rfl, hown, hb⟩))
    go_ret
    exact ⟨v', rfl, hown, hb⟩

end Go.Proofs.YtpngmjfnpdjjcaaDoor
/- The contracts of the document's own Bytes, join, Num, Sign, Text. -/
namespace Go.Proofs.YtpngmjfnpdjjcaaDoor
open Go Go.RowKit

theorem shr_nat (P : Program) (x m : Nat) (hm : m ≤ 64) (w : World) : Sem.run P (Op.shift BinOp.shr IntKind.u64 (x : Int) IntKind.i64 (m : Int)) w = .ok (.int .u64 ((x / 2 ^ m : Nat) : Int)) w := by
  unfold Op.shift
  rw [if_neg (by omega)]
  have e2 : min m IntKind.u64.bits = m := by simp [IntKind.bits]; omega
  simp only [Int.toNat_natCast, e2]
  rw [Sem.run_pure]
  have : (x : Int).fdiv (2 ^ m) = ((x / 2 ^ m : Nat) : Int) := by
    rw [show ((2 : Int) ^ m) = ((2 ^ m : Nat) : Int) from by simp, Int.fdiv_eq_ediv_of_nonneg _ (Int.natCast_nonneg _)]; simp
  simp only [this]

/-- the first byte's ones -/
def sm (j : Nat) : Nat := 256 - 2 ^ (8 - j)
theorem sm_step (j : Nat) (h : j < 8) : ((sm j : Nat) : Int) + 128 / 2 ^ j = ((sm (j + 1) : Nat) : Int) := by
  match j, h with
  | 0, _ => decide
  | 1, _ => decide
  | 2, _ => decide
  | 3, _ => decide
  | 4, _ => decide
  | 5, _ => decide
  | 6, _ => decide
  | 7, _ => decide
theorem sm_le (j : Nat) (h : j ≤ 8) : sm j ≤ 255 := by
  have := (Cod.pow_parts j h).1
  unfold sm; omega

end Go.Proofs.YtpngmjfnpdjjcaaDoor
/- The contracts of both Seals: the sum's four bytes, and the bytes behind them. -/
namespace Go.Proofs.YtpngmjfnpdjjcaaDoor
open Go Go.RowKit

/-- a sum's four bytes, the highest first -/
def be4 (c : Nat) : List UInt8 := [UInt8.ofNat (c / 16777216), UInt8.ofNat (c / 65536), UInt8.ofNat (c / 256), UInt8.ofNat c]
def sealed (l : List UInt8) : List UInt8 := be4 (Frm.crc l) ++ l
theorem sealed_length (l : List UInt8) : (sealed l).length = l.length + 4 := by simp [sealed, be4]

theorem be4_at {s : Nat} {k : Nat} (hk : k < 4) : ((s : Int) / 2 ^ (8 * (3 - k)) % 256) = (((be4 s).getD k 0).toNat : Int) := by
  match k, hk with
  | 0, _ => simp [be4]
  | 1, _ => simp [be4]
  | 2, _ => simp [be4]
  | 3, _ => simp [be4]
theorem be4_snoc (s : Nat) {k : Nat} (hk : k < 4) : (be4 s).take (k + 1) = (be4 s).take k ++ [(be4 s).getD k 0] := take_snocF (by simpa [be4] using hk)

set_option maxHeartbeats 1000000 in
theorem seal_own (p : Option Addr) (c : Nat) (l : List UInt8) (w : World) (h : Lies w p l) (hp : p = none → l = [] ∧ c = 0) (hT : Table w) (hn : l.length ≤ 140737488355000) :
    Calls Tryd.prog 14 #[.slice p l.length c] w (RetOwn w 5 (sealed l)) := by
  have H := Lib.hid h; clear h
  have HT := Lib.hid hT; clear hT
  have HP := Lib.hid hp; clear hp
  go_enter Tryd.func14, Tryd.ntmps14
  go_wp2_with (first
    | (go_at_call 26; refine (sum_any _ _ _ _ H.out HT.out (by omega)).mono ?_; rintro e w' ⟨rfl, rfl⟩)
    | (at_make; refine wpList_makeBytes isU8 w rfl _ _ rfl _ _ _ (4 + l.length) rfl rfl (by omega) (by omega) ?_))
  intro v w1 hown hb
  obtain ⟨s, hs⟩ : ∃ s, s = Frm.crc l := ⟨_, rfl⟩
  have hs2 := Frm.crc_lt l
  rw [← hs] at hs2 ⊢
  have HS := Lib.hid hs; clear hs
  go_wp2
  go_loopw [4, 12] (fun v i wr => ∃ k : Nat, k ≤ 4 ∧ i = .int .i64 k ∧ wr.ownsRow w.heap.size 5 1 v k (bys ((be4 s).take k)) ∧ Below w.heap.size w wr) (fun _ i _ => 4 - (intOf i).toNat)
  case atStart => exact ⟨0, Nat.zero_le _, rfl, hown, hb⟩
  case round =>
    clear hown hb
    obtain ⟨k, hk, rfl, hown, hb⟩ := hrel
    by_cases hk4 : k < 4
    · go_wp2_with (at_builtin; refine wpList_byte isU8 _ rfl _ _ rfl w.heap.size k ((be4 s).take k) _ rfl hown _ ((be4 s).getD k 0) rfl (be4_at hk4) (by omega) hb.size ?_)
      intro v' w' hown' hb'
      clear hown
      go_wp2
      go_roundw
      case rel => exact ⟨k + 1, by omega, by go_num, by rw [be4_snoc s hk4]; exact hown', hb.trans hb'⟩
      case measure => simp [intOf]; omega
    · obtain rfl : k = 4 := by omega
      go_wp2_with (at_builtin; refine wpList_bytes isU8 _ rfl _ _ rfl w.heap.size 4 ((be4 s).take 4) _ rfl hown p l.length c l rfl (H.out.below hb) rfl (fun e => ⟨by rw [(HP.out e).1]; rfl, (HP.out e).2⟩) (by omega) hb.size ?_)
      intro v' w' hown' hb'
      go_wp2
      go_ret
      exact RetOwn.of_own (by unfold sealed; rw [← HS.out]; exact hown') rfl (hb.trans hb')
theorem seal_any (p : Option Addr) (c : Nat) (l : List UInt8) (w : World) (h : Lies w p l) (hp : p = none → l = [] ∧ c = 0) (hT : Table w) (hn : l.length ≤ 140737488355000) :
    Calls Tryd.prog 14 #[.slice p l.length c] w (RetBytes w (sealed l)) := (seal_own p c l w h hp hT hn).mono fun _ _ h => h.bytes
end Go.Proofs.YtpngmjfnpdjjcaaDoor
/- The contract of the document's own Seal. -/
namespace Go.Proofs.YtpngmjfnpdjjcaaDoor
open Go Go.RowKit

set_option maxHeartbeats 1000000 in
theorem seal2_any (p : Option Addr) (c : Nat) (l : List UInt8) (w : World) (h : Lies w p l) (hp : p = none → l = [] ∧ c = 0) (hn : l.length ≤ 140737488355000) :
    Calls Tryd.prog 12 #[.slice p l.length c] w (RetBytes w (sealed l)) := by
  have H := Lib.hid h; clear h
  have HP := Lib.hid hp; clear hp
  obtain ⟨s, hs⟩ : ∃ s, s = Frm.crc l := ⟨_, rfl⟩
  have hs2 := Frm.crc_lt l
  have hsum := sum2_any p c l w H.out (by omega)
  have hown : (w.alloc (.cells #[.int .u8 ((s : Int) / 16777216), .int .u8 ((s : Int) / 65536 % 256), .int .u8 ((s : Int) / 256 % 256), .int .u8 ((s : Int) % 256)] 5)).ownsRow w.heap.size 5 1 (.slice (some ⟨w.heap.size, 0, none⟩) 4 4) 4 (bys (be4 s)) := by
    have := World.ownsRow_lit (base := w.heap.size) (e := 5) (size := 1) w #[.int .u8 ((s : Int) / 16777216), .int .u8 ((s : Int) / 65536 % 256), .int .u8 ((s : Int) / 256 % 256), .int .u8 ((s : Int) % 256)] 4 (Nat.le_refl _) (by decide) (by simp)
    have e : ((s : Int) / 16777216) % 256 = (s : Int) / 16777216 := by omega
    simpa [bys, be4, e] using this
  rw [← hs] at hs2 hsum
  have HS := Lib.hid hs; clear hs
  go_enter Tryd.func12, Tryd.ntmps12
  go_wp2_with (first
    | (go_at_call 22; refine hsum.mono ?_; rintro e w' ⟨rfl, rfl⟩)
    | (at_builtin; refine wpList_bytes isU8 _ rfl _ _ rfl w.heap.size 4 (be4 s) _ rfl hown p l.length c l rfl (H.out.alloc _) rfl (fun e => ⟨by rw [(HP.out e).1]; rfl, (HP.out e).2⟩) (by omega) (by simp) ?_))
  intro v' w' hown' hb'
  go_wp2
  go_ret
  exact RetBytes.of_own (by unfold sealed; rw [← HS.out]; exact hown') rfl (((Below.refl _ _).alloc (Nat.le_refl _) _).trans hb')
end Go.Proofs.YtpngmjfnpdjjcaaDoor
/- The contract of frame.Open. -/
namespace Go.Proofs.YtpngmjfnpdjjcaaDoor
open Go Go.RowKit

/-- what bytes open to, and the error's number -/
def opens (l : List UInt8) : List UInt8 × Int :=
  if l.length < 4 then ([], 4) else if l.take 4 = be4 (Frm.crc (l.drop 4)) then (l.drop 4, 0) else ([], 6)
/-- a call that hands back bytes in memory, and an error's number -/
def RetTwo (w : World) (r : List UInt8 × Int) (e : Ending) (w' : World) : Prop :=
  ∃ p c, e = .returned (.tuple #[.slice p r.1.length c, .int .i64 r.2]) ∧ r.1.length ≤ c ∧ (p = none → r.1 = [] ∧ c = 0) ∧ Lies w' p r.1 ∧ Below w.heap.size w w'
theorem RetTwo.none {w w' : World} {n : Int} {e : Ending} (he : e = .returned (.tuple #[.slice none 0 0, .int .i64 n])) (hw : Below w.heap.size w w') : RetTwo w ([], n) e w' :=
  ⟨_, _, he, Nat.le_refl _, fun _ => ⟨rfl, rfl⟩, Lies.nil _ _, hw⟩

theorem RetTwo.of_own {w w' : World} {B : Nat} {ty : TypeId} {v : Value} {n : Nat} {l : List UInt8} {k : Int} {e : Ending} (h : w'.ownsRow B ty 1 v n (bys l)) (he : e = .returned (.tuple #[v, .int .i64 k])) (hb : Below w.heap.size w w') : RetTwo w (l, k) e w' := by
  obtain ⟨rfl, p, c, rfl, h1, h2, h3, h4⟩ := own_lies h
  exact ⟨p, c, he, h1, h4, h3, hb⟩

def val (l : List UInt8) : Nat := l.foldl (fun a b => a * 256 + b.toNat) 0
theorem val_snoc (l : List UInt8) (b : UInt8) : val (l ++ [b]) = val l * 256 + b.toNat := by simp [val]
theorem val_lt (l : List UInt8) (k : Nat) (hk : k < 4) : val (l.take k) < 16777216 := by
  have h : ∀ (l : List UInt8) (k : Nat), l.length ≤ k → ∀ a, l.foldl (fun a b => a * 256 + b.toNat) a < (a + 1) * 256 ^ k := by
    intro l
    induction l with
    | nil => intro k _ a; simp; exact Nat.lt_of_lt_of_le (Nat.lt_succ_self a) (Nat.le_mul_of_pos_right _ (Nat.pos_of_ne_zero (by simp)))
    | cons b l ih =>
      intro k hk a
      match k, hk with
      | k + 1, hk =>
        simp only [List.foldl_cons]
        refine Nat.lt_of_lt_of_le (ih k (by simpa using hk) _) ?_
        have := b.toNat_lt
        rw [Nat.pow_succ, Nat.mul_comm (256 ^ k) 256, ← Nat.mul_assoc]
        exact Nat.mul_le_mul_right _ (by omega)
  have := h (l.take k) 3 (by simp; omega) 0
  unfold val
  omega

theorem or_byte {v x : Nat} (hv : v < 16777216) (hx : x < 256) : Value.int IntKind.u32 (bits BinOp.or IntKind.u32 ((v : Int) * 256) (x : Int)) = Value.int IntKind.u32 ((v * 256 + x : Nat) : Int) := by
  rw [show ((v : Int) * 256) = ((v * 256 : Nat) : Int) from by simp, u32_or_nat _ _ (by omega) (by omega), nat_join 8 _ _ (by omega) (by omega)]
theorem val_be4 (c : Nat) (hc : c < 4294967296) : val (be4 c) = c := by
  simp only [val, be4, List.foldl_cons, List.foldl_nil, UInt8.toNat_ofNat']
  omega
theorem be4_val (l : List UInt8) (h : l.length = 4) : be4 (val l) = l := by
  match l, h with
  | [a, b, c, d], _ =>
    have ha := a.toNat_lt; have hb := b.toNat_lt; have hc := c.toNat_lt; have hd := d.toNat_lt
    have e : val [a, b, c, d] = ((a.toNat * 256 + b.toNat) * 256 + c.toNat) * 256 + d.toNat := by simp [val]
    rw [e]
    unfold be4
    have q : ∀ (n : Nat) (x : UInt8), n % 256 = x.toNat → UInt8.ofNat n = x := fun n x h => by
      apply UInt8.toNat_inj.1; rw [UInt8.toNat_ofNat']; exact h
    rw [q _ a (by omega), q _ b (by omega), q _ c (by omega), q _ d (by omega)]
theorem val_take4 {l : List UInt8} (h : 4 ≤ l.length) (c : Nat) (hc : c < 4294967296) : l.take 4 = be4 c ↔ val (l.take 4) = c := by
  constructor
  · intro e; rw [e, val_be4 c hc]
  · intro e; rw [← e, be4_val _ (by simp; omega)]
theorem sum_of (p : Option Addr) (n c : Nat) (l : List UInt8) (w : World) (e : n = l.length) (h : Lies w p l) (hT : Table w) (hn : l.length ≤ 140737488355328) :
    Calls Tryd.prog 26 #[.slice p n c] w fun e w' => e = .returned (.int .u32 (Frm.crc l : Nat)) ∧ w = w' := by
  subst e; exact sum_any p c l w h hT hn

set_option maxHeartbeats 1000000 in
theorem open_any (p : Option Addr) (c : Nat) (l : List UInt8) (w : World) (h : Lies w p l) (hlc : l.length ≤ c) (hT : Table w) (hn : l.length ≤ 140737488355000) :
    Calls Tryd.prog 16 #[.slice p l.length c] w (RetTwo w (opens l)) := by
  have HT := Lib.hid hT; clear hT
  by_cases h4 : l.length < 4
  · have e1 : opens l = ([], 4) := by unfold opens; rw [if_pos h4]
    have E := Lib.hid e1; clear e1
    go_enter Tryd.func16, Tryd.ntmps16
    go_wp2
    go_ret2
    rw [E.out]
    exact RetTwo.none rfl (Below.refl _ _)
  · obtain ⟨b, o, rfl, hbw, hc⟩ := h.at (by omega)
    have HC := Lib.hid hc; clear hc h
    go_enter Tryd.func16, Tryd.ntmps16
    go_wp2
    go_loop [4, 9] (fun s i => ∃ k : Nat, k ≤ 4 ∧ i = .int .i64 k ∧ s = .int .u32 (val (l.take k) : Nat)) (fun _ i => 4 - (intOf i).toNat)
    case atStart => exact ⟨0, Nat.zero_le _, rfl, rfl⟩
    case round =>
      obtain ⟨k, hk, rfl, rfl⟩ := hrel
      by_cases hk4 : k < 4
      · have hck := HC.out k (by omega)
        have hv := val_lt l k hk4
        obtain ⟨v, hve⟩ : ∃ v, v = val (l.take k) := ⟨_, rfl⟩
        rw [← hve] at hv ⊢
        have HV := Lib.hid hve; clear hve
        obtain ⟨x, hx⟩ : ∃ x : Nat, x = (l.getD k 0).toNat := ⟨_, rfl⟩
        have hx2 : x < 256 := by rw [hx]; exact UInt8.toNat_lt _
        rw [← hx] at hck
        have HX := Lib.hid hx; clear hx
        go_wp2
        go_round
        case rel => exact ⟨k + 1, by omega, by go_num, by rw [take_snocF (by omega), val_snoc, ← HV.out, ← HX.out]; exact or_byte hv hx2⟩
        case measure => simp [intOf]; omega
      · obtain rfl : k = 4 := by omega
        have hl := fun pp h => Lies.tail HC.out (c := c) (k := 4) (by omega) hlc pp h
        have HL := Lib.hid hl; clear hl
        have hs := val_take4 (l := l) (by omega) (Frm.crc (l.drop 4)) (Frm.crc_lt _)
        by_cases hv : l.take 4 = be4 (Frm.crc (l.drop 4))
        · have e1 : opens l = (l.drop 4, 0) := by unfold opens; rw [if_neg h4, if_pos hv]
          have E := Lib.hid e1; clear e1
          have hb : ((val (l.take 4) : Int) != (Frm.crc (l.drop 4) : Int)) = false := by rw [hs.1 hv]; simp
          clear hv hs
          go_wp2_with (first
            | (go_at_call 26; refine (sum_of _ _ _ (l.drop 4) _ (by simp) (HL.out _ (by intro h; first | rfl | exact absurd ‹_› h)) HT.out (by simp; omega)).mono ?_; rintro e w' ⟨rfl, rfl⟩)
            | (at_builtin; refine wpList_bytes isU8 _ rfl _ _ rfl w.heap.size 0 [] _ rfl (World.ownsRow_nil _ _ _ _) _ _ _ (l.drop 4) rfl (HL.out _ (by intro h; first | rfl | exact absurd ‹_› h)) (by simp) (by intro h; cases h) (by simp; omega) (Nat.le_refl _) ?_))
          all_goals
            intro v' w' hown hb'
            go_wp2
            go_ret2
            rw [E.out]
            exact RetTwo.of_own (by simpa using hown) rfl hb'
        · have e1 : opens l = ([], 6) := by unfold opens; rw [if_neg h4, if_neg hv]
          have E := Lib.hid e1; clear e1
          have hb : ((val (l.take 4) : Int) != (Frm.crc (l.drop 4) : Int)) = true := by
            have : ¬ val (l.take 4) = Frm.crc (l.drop 4) := fun e => hv (hs.2 e)
            simp; omega
          clear hv hs
          go_wp2_with (first
            | (go_at_call 26; refine (sum_of _ _ _ (l.drop 4) _ (by simp) (HL.out _ (by intro h; first | rfl | exact absurd ‹_› h)) HT.out (by simp; omega)).mono ?_; rintro e w' ⟨rfl, rfl⟩))
          all_goals
            go_ret2
            rw [E.out]
            exact RetTwo.none rfl (Below.refl _ _)
end Go.Proofs.YtpngmjfnpdjjcaaDoor
