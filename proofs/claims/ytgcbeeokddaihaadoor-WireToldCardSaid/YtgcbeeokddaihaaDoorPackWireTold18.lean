/- The statement WireTold, proved for every input that its row reads: part 18 of 54. -/
import Derived.Test.YtgcbeeokddaihaaDoorPackWireTold17
import Derived.Test.YtgcbeeokddaihaaDoorPackWireTold16
import Derived.Outline
/- The contract of utf's Valid; the example that each law of layer 3 ends with. -/
namespace Go.Proofs.YtgcbeeokddaihaaDoor
open Go Go.RowKit

namespace Utf
theorem nx_step (s : ByteArray) (p : Nat) (h : p < s.size) : 1 ≤ (nx s p).2 ∧ (nx s p).2 ≤ 4 ∧ p + (nx s p).2 ≤ s.size := by
  unfold nx
  split
  · rename_i h1
    have h2 := h1.1
    have := led_le (gt s p)
    simp only
    omega
  · simp only
    omega
theorem nx_small (s : ByteArray) (p : Nat) : -1 ≤ (nx s p).1 ∧ (nx s p).1 ≤ 1114111 := by
  unfold nx
  split
  · rename_i h1
    have h2 := h1.2.2.1
    unfold sg at h2
    simp only [decide_eq_true_eq] at h2
    simp only
    omega
  · simp only
    omega
def vd (s : ByteArray) : Nat → Nat → Bool
  | 0, _ => true
  | f + 1, p => if p < s.size then (if (nx s p).1 < 0 then false else vd s f (p + (nx s p).2)) else true
def valid (s : ByteArray) : Bool := vd s s.size 0
theorem vd_end (s : ByteArray) (f p : Nat) (h : s.size ≤ p) : vd s f p = true := by
  cases f with
  | zero => rfl
  | succ f => rw [vd, if_neg (by omega)]
theorem vd_no (s : ByteArray) (f p : Nat) (h : p < s.size) (hf : s.size ≤ p + f) (hn : (nx s p).1 < 0) : vd s f p = false := by
  cases f with
  | zero => omega
  | succ f => rw [vd, if_pos h, if_pos hn]
theorem vd_step (s : ByteArray) (f p : Nat) (h : p < s.size) (hf : s.size ≤ p + f) (hn : ¬ (nx s p).1 < 0) : vd s f p = vd s (f - 1) (p + (nx s p).2) := by
  cases f with
  | zero => omega
  | succ f => rw [vd, if_pos h, if_neg hn]; rfl
end Utf

set_option maxHeartbeats 1000000 in
theorem utfValid_is (s : ByteArray) (w : World) (hs : s.size ≤ 140737488351232) (hT : Shapes w) :
    Calls Tryd.prog 77 #[.string s] w fun e w' => e = .returned (.bool (Utf.valid s)) ∧ w = w' := by
  obtain ⟨b, hb⟩ : ∃ b, b = Utf.valid s := ⟨_, rfl⟩
  rw [← hb]
  have HB : Hid (b = Utf.vd s s.size 0) := hb
  have HT := Lib.hid hT
  clear hb hT
  go_enter Tryd.func77, Tryd.ntmps77
  go_wp2
  go_loop [3] (fun i => ∃ p f : Nat, p ≤ s.size ∧ s.size ≤ p + f ∧ i = .int .i64 p ∧ b = Utf.vd s f p) (fun i => s.size - (intOf i).toNat)
  case atStart => exact ⟨0, s.size, Nat.zero_le _, by omega, rfl, HB.out⟩
  case round =>
    obtain ⟨p, f, hp, hf, rfl, hbv⟩ := hrel
    have BV := Lib.hid hbv
    clear hbv
    by_cases hps : p < s.size
    · have hn := next_in s p w hps hs HT.out
      have hst := Utf.nx_step s p hps
      have hv := fun h => Utf.vd_no s f p hps hf h
      have hv2 := fun h => Utf.vd_step s f p hps hf h
      have HV := Lib.hid hv; have HV2 := Lib.hid hv2
      clear hv hv2
      generalize (Utf.nx s p).1 = x at hn HV HV2
      generalize (Utf.nx s p).2 = n at hn hst HV2
      obtain ⟨n1, n2, n3⟩ := hst
      have hp' : (p : Int) < s.size := by omega
      by_cases hx : x < 0
      · have HE := Lib.hid (HV.out hx)
        go_wp2_with fail
        refine hn.mono ?_
        rintro e w' ⟨rfl, rfl⟩
        clear hn
        go_wp2
        go_ret
        exact ⟨ret_bool (by rw [BV.out, HE.out]), rfl⟩
      · have HE := Lib.hid (HV2.out hx)
        go_wp2_with fail
        refine hn.mono ?_
        rintro e w' ⟨rfl, rfl⟩
        clear hn
        go_wp2
        go_round
        case rel => exact ⟨p + n, f - 1, by omega, by omega, by go_num, by rw [BV.out, HE.out]⟩
        case measure => simp [intOf]; omega
    · have HE := Lib.hid (Utf.vd_end s f p (by omega))
      have hp' : ¬ (p : Int) < s.size := by omega
      go_wp2
      go_ret
      exact ⟨ret_bool (by rw [BV.out, HE.out]), rfl⟩

theorem utfEx1 : Utf.nx ⟨#[195, 169]⟩ 0 = (233, 2) := by decide +kernel
theorem utfEx2 : Utf.valid ⟨#[97, 195, 169]⟩ = true := by decide +kernel
theorem utfEx3 : Utf.valid ⟨#[255]⟩ = false := by decide +kernel

end Go.Proofs.YtgcbeeokddaihaaDoor
/- What was put is found: the plain part. -/
namespace Go.Proofs.YtgcbeeokddaihaaDoor
open Go Go.RowKit
namespace Utf
theorem gt_arr (l : List UInt8) (i : Nat) : gt ⟨l.toArray⟩ i = (l.getD i 0).toNat := rfl
theorem gt_behind (b m : List UInt8) (i : Nat) : gt ⟨(b ++ m).toArray⟩ (b.length + i) = (m.getD i 0).toNat := by
  rw [gt_arr, List.getD, List.getElem?_append_right (by omega), show b.length + i - b.length = i from by omega]; rfl
theorem encK_len (r k : Nat) : (encK r k).length = k + 1 := by simp [encK]
theorem encK_head (r k : Nat) : (encK r k).getD 0 0 = UInt8.ofNat (lead k + r / 64 ^ k) := rfl
theorem encK_tail (r k i : Nat) (h : i < k) : (encK r k).getD (i + 1) 0 = tailB r k i := by
  simp [encK, List.getD, h]
theorem tailB_nat (r k i : Nat) : (tailB r k i).toNat = 128 + r / 64 ^ (k - 1 - i) % 64 := by
  unfold tailB
  rw [UInt8.toNat_ofNat', Nat.mod_eq_of_lt]
  omega
theorem head_is (r : Nat) (hr : r ≤ 1114111) : (UInt8.ofNat (lead (sh r) + r / 64 ^ (sh r))).toNat = lead (sh r) + r / 64 ^ (sh r) ∧ led (lead (sh r) + r / 64 ^ (sh r)) = sh r := by
  have h : sh (r : Int) = 0 ∧ r ≤ 127 ∨ sh (r : Int) = 1 ∧ 127 < r ∧ r ≤ 2047 ∨ sh (r : Int) = 2 ∧ 2047 < r ∧ r ≤ 65535 ∨ sh (r : Int) = 3 ∧ 65535 < r := by
    unfold sh; (repeat' split) <;> omega
  rw [UInt8.toNat_ofNat']
  rcases h with ⟨e, h⟩ | ⟨e, h⟩ | ⟨e, h⟩ | ⟨e, h⟩ <;> rw [e] <;> unfold lead led <;> simp <;> constructor <;> (repeat' split) <;> omega
theorem found (b : List UInt8) (r : Int) (h : sg r = true) : nx ⟨(b ++ enc r).toArray⟩ b.length = (r, sh r + 1) := by
  have hr : 0 ≤ r ∧ r ≤ 1114111 := by unfold sg at h; simp only [decide_eq_true_eq] at h; omega
  obtain ⟨m, rfl⟩ := Int.eq_ofNat_of_zero_le hr.1
  have he : enc (m : Int) = encK m (sh (m : Int)) := by unfold enc; rw [h]; rfl
  rw [he]
  obtain ⟨h1, h2⟩ := head_is m (by omega)
  have hg : gt ⟨(b ++ encK m (sh (m : Int))).toArray⟩ b.length = lead (sh (m : Int)) + m / 64 ^ (sh (m : Int)) := by
    have := gt_behind b (encK m (sh (m : Int))) 0
    rw [Nat.add_zero] at this
    rw [this, encK_head, h1]
  have hi : ∀ i, i < sh (m : Int) → gt ⟨(b ++ encK m (sh (m : Int))).toArray⟩ (b.length + 1 + i) = 128 + m / 64 ^ (sh (m : Int) - 1 - i) % 64 := fun i hi => by
    rw [show b.length + 1 + i = b.length + (i + 1) from by omega, gt_behind, encK_tail _ _ _ hi, tailB_nat]
  have hsz : (⟨(b ++ encK m (sh (m : Int))).toArray⟩ : ByteArray).size = b.length + (sh (m : Int) + 1) := by
    show (b ++ encK m (sh (m : Int))).toArray.size = _
    simp [encK_len]
  have hacc : acc ⟨(b ++ encK m (sh (m : Int))).toArray⟩ b.length (sh (m : Int)) = m := by
    have hle := sh_le (m : Int)
    generalize hS : (⟨(b ++ encK m (sh (m : Int))).toArray⟩ : ByteArray) = S at hg hi ⊢
    generalize sh (m : Int) = k at hg hi hle h2 ⊢
    have h0 : acc S b.length 0 = m / 64 ^ k := by simp only [acc]; rw [hg, h2]; exact Nat.add_sub_cancel_left _ _
    match k, hle with
    | 0, _ => rw [h0]; simp
    | 1, _ =>
      have a0 := hi 0 (by omega)
      simp only [acc] at h0 ⊢
      rw [h0, a0]
      simp
      omega
    | 2, _ =>
      have a0 := hi 0 (by omega); have a1 := hi 1 (by omega)
      simp only [acc] at h0 ⊢
      rw [h0, a0, a1]
      simp
      omega
    | 3, _ =>
      have a0 := hi 0 (by omega); have a1 := hi 1 (by omega); have a2 := hi 2 (by omega)
      simp only [acc] at h0 ⊢
      rw [h0, a0, a1, a2]
      simp
      omega
  have hok : ok ⟨(b ++ encK m (sh (m : Int))).toArray⟩ b.length := by
    unfold ok
    rw [hg, h2, hacc, hsz]
    refine ⟨by omega, fun j hj => ?_, h, rfl⟩
    unfold cont
    rw [hi j hj]
    omega
  rw [nx_yes hok, hg, h2, hacc]
end Utf
namespace Utf
/-- the number that the document tries with k bytes behind the first -/
def rk (s : ByteArray) (p : Nat) : Nat → Nat
  | 0 => gt s p
  | 1 => gt s p % 32 * 64 + gt s (p + 1) % 64
  | 2 => gt s p % 16 * 4096 + gt s (p + 1) % 64 * 64 + gt s (p + 2) % 64
  | _ => gt s p % 8 * 262144 + gt s (p + 1) % 64 * 4096 + gt s (p + 2) % 64 * 64 + gt s (p + 3) % 64
/-- its bytes are those that stand there -/
def mt (s : ByteArray) (p k : Nat) : Prop := p + k + 1 ≤ s.size ∧ (enc (rk s p k : Nat)).length = k + 1 ∧ ∀ i, i ≤ k → ((enc (rk s p k : Nat)).getD i 0).toNat = gt s (p + i)
theorem sh_cases (r : Nat) : sh (r : Int) = 0 ∧ r ≤ 127 ∨ sh (r : Int) = 1 ∧ 127 < r ∧ r ≤ 2047 ∨ sh (r : Int) = 2 ∧ 2047 < r ∧ r ≤ 65535 ∨ sh (r : Int) = 3 ∧ 65535 < r := by
  unfold sh; (repeat' split) <;> omega
theorem led_cases (f : Nat) : led f = 0 ∧ f < 192 ∨ led f = 1 ∧ 192 ≤ f ∧ f < 224 ∨ led f = 2 ∧ 224 ≤ f ∧ f < 240 ∨ led f = 3 ∧ 240 ≤ f := by
  unfold led; (repeat' split) <;> omega
theorem enc_get0 (m : Nat) (h : sg (m : Int) = true) : ((enc (m : Int)).getD 0 0).toNat = lead (sh (m : Int)) + m / 64 ^ sh (m : Int) := by
  have hr : m ≤ 1114111 := by unfold sg at h; simp only [decide_eq_true_eq] at h; omega
  have he : enc (m : Int) = encK m (sh (m : Int)) := by unfold enc; rw [h]; rfl
  rw [he, encK_head, (head_is m hr).1]
theorem enc_getS (m i : Nat) (h : sg (m : Int) = true) (hi : i < sh (m : Int)) : ((enc (m : Int)).getD (i + 1) 0).toNat = 128 + m / 64 ^ (sh (m : Int) - 1 - i) % 64 := by
  have he : enc (m : Int) = encK m (sh (m : Int)) := by unfold enc; rw [h]; rfl
  rw [he, encK_tail _ _ _ hi, tailB_nat]
theorem enc_lenS (m : Nat) (h : sg (m : Int) = true) : (enc (m : Int)).length = sh (m : Int) + 1 := by
  have he : enc (m : Int) = encK m (sh (m : Int)) := by unfold enc; rw [h]; rfl
  rw [he, encK_len]
theorem acc_rk (s : ByteArray) (p : Nat) (h : ok s p) : acc s p (led (gt s p)) = rk s p (led (gt s p)) := by
  have hg := gt_lt s p
  have h4 := h.2.2.1
  unfold sg at h4
  simp only [decide_eq_true_eq] at h4
  rcases led_cases (gt s p) with ⟨e, b⟩ | ⟨e, b⟩ | ⟨e, b⟩ | ⟨e, b⟩
  · rw [e]
    show gt s p - lead (led (gt s p)) = gt s p
    rw [e]; simp [lead]
  · have a : acc s p 1 = (gt s p - 192) * 64 + gt s (p + 1) % 64 := by simp only [acc]; rw [e]; rfl
    rw [e, a]
    simp only [rk]
    omega
  · have a : acc s p 2 = ((gt s p - 224) * 64 + gt s (p + 1) % 64) * 64 + gt s (p + 2) % 64 := by simp only [acc]; rw [e]; rfl
    rw [e, a]
    simp only [rk]
    omega
  · have a : acc s p 3 = (((gt s p - 240) * 64 + gt s (p + 1) % 64) * 64 + gt s (p + 2) % 64) * 64 + gt s (p + 3) % 64 := by simp only [acc]; rw [e]; rfl
    rw [e, a] at h4
    rw [e, a]
    simp only [rk]
    omega
/-- where a sign begins, the document's way finds it with just so many bytes -/
theorem mt_of_ok (s : ByteArray) (p : Nat) (h : ok s p) : mt s p (led (gt s p)) := by
  have ha := acc_rk s p h
  have hg := gt_lt s p
  have hb0 : acc s p (led (gt s p)) ≤ 1114111 := by
    have h5 := h.2.2.1
    unfold sg at h5
    simp only [decide_eq_true_eq] at h5
    omega
  obtain ⟨h1, h2, h3, h4⟩ := h
  rw [ha] at h3 h4
  have hl := enc_lenS _ h3
  have e0 := enc_get0 _ h3
  have eS := fun i hi => enc_getS _ i h3 hi
  rw [h4] at hl e0 eS
  refine ⟨h1, hl, fun i hi => ?_⟩
  clear hl h3 h4 ha
  rcases led_cases (gt s p) with ⟨e, b⟩ | ⟨e, b⟩ | ⟨e, b⟩ | ⟨e, b⟩ <;> rw [e] at h1 h2 e0 eS hi hb0 ⊢
  · obtain rfl : i = 0 := by omega
    rw [e0]; simp [lead, rk]
  · have c1 := h2 0 (by omega)
    simp only [cont, Nat.add_zero] at c1
    match i, hi with
    | 0, _ => rw [e0]; simp only [lead, rk, Nat.add_zero]; simp; omega
    | 1, _ => rw [eS 0 (by omega)]; simp only [rk]; simp; omega
  · have c1 := h2 0 (by omega); have c2 := h2 1 (by omega)
    simp only [cont, Nat.add_zero, show p + 1 + 1 = p + 2 from rfl] at c1 c2
    match i, hi with
    | 0, _ => rw [e0]; simp only [lead, rk, Nat.add_zero]; simp; omega
    | 1, _ => rw [eS 0 (by omega)]; simp only [rk]; simp; omega
    | 2, _ => rw [eS 1 (by omega)]; simp only [rk]; simp; omega
  · have c1 := h2 0 (by omega); have c2 := h2 1 (by omega); have c3 := h2 2 (by omega)
    simp only [cont, Nat.add_zero, show p + 1 + 1 = p + 2 from rfl, show p + 1 + 2 = p + 3 from rfl] at c1 c2 c3
    have a : acc s p 3 = (((gt s p - 240) * 64 + gt s (p + 1) % 64) * 64 + gt s (p + 2) % 64) * 64 + gt s (p + 3) % 64 := by simp only [acc]; rw [e]; rfl
    rw [a] at hb0
    have hb : gt s p ≤ 247 := by omega
    match i, hi with
    | 0, _ => rw [e0]; simp only [lead, rk, Nat.add_zero]; simp; omega
    | 1, _ => rw [eS 0 (by omega)]; simp only [rk]; simp; omega
    | 2, _ => rw [eS 1 (by omega)]; simp only [rk]; simp; omega
    | 3, _ => rw [eS 2 (by omega)]; simp only [rk]; simp; omega
/-- what the document's way finds is what nx finds -/
theorem ok_of_mt (s : ByteArray) (p k : Nat) (hk : k ≤ 3) (h : mt s p k) : ok s p ∧ led (gt s p) = k ∧ acc s p k = rk s p k := by
  obtain ⟨h1, hl, hb⟩ := h
  obtain ⟨r, hr⟩ : ∃ r, r = rk s p k := ⟨_, rfl⟩
  rw [← hr] at hl hb ⊢
  clear hr
  have hsg : sg (r : Int) = true := by
    refine Classical.byContradiction fun hn => ?_
    have : enc (r : Int) = [] := by unfold enc; rw [if_neg hn]
    rw [this] at hl; simp at hl
  have hrb : r ≤ 1114111 := by unfold sg at hsg; simp only [decide_eq_true_eq] at hsg; omega
  have hsh : sh (r : Int) = k := by have := enc_lenS r hsg; omega
  have e0 := enc_get0 r hsg
  have eS := fun i hi => enc_getS r i hsg hi
  have hhd := (head_is r hrb).2
  rw [hsh] at e0 eS hhd
  have b0 := hb 0 (by omega)
  rw [e0, Nat.add_zero] at b0
  rw [b0] at hhd
  have bS : ∀ i, i < k → gt s (p + 1 + i) = 128 + r / 64 ^ (k - 1 - i) % 64 := fun i hi => by
    rw [← eS i hi, hb (i + 1) (by omega), show p + (i + 1) = p + 1 + i from by omega]
  have hacc : acc s p k = r := by
    have h0 : acc s p 0 = r / 64 ^ k := by simp only [acc]; rw [hhd, ← b0]; exact Nat.add_sub_cancel_left _ _
    rcases (show k = 0 ∨ k = 1 ∨ k = 2 ∨ k = 3 by omega) with rfl | rfl | rfl | rfl
    · rw [h0]; simp
    · have a0 := bS 0 (by omega)
      simp only [acc] at h0 ⊢
      rw [h0, a0]; simp; omega
    · have a0 := bS 0 (by omega); have a1 := bS 1 (by omega)
      simp only [acc] at h0 ⊢
      rw [h0, a0, a1]; simp; omega
    · have a0 := bS 0 (by omega); have a1 := bS 1 (by omega); have a2 := bS 2 (by omega)
      simp only [acc] at h0 ⊢
      rw [h0, a0, a1, a2]; simp; omega
  refine ⟨?_, hhd, hacc⟩
  unfold ok
  rw [hhd, hacc]
  refine ⟨h1, fun j hj => ?_, hsg, hsh⟩
  unfold cont
  rw [bS j hj]
  omega
/-- the document's way: the first length that fits -/
theorem nx_of_mt (s : ByteArray) (p k : Nat) (hk : k ≤ 3) (h : mt s p k) : nx s p = (((rk s p k : Nat) : Int), k + 1) := by
  obtain ⟨h1, h2, h3⟩ := ok_of_mt s p k hk h
  rw [nx_yes h1, h2, h3]
theorem nx_none (s : ByteArray) (p : Nat) (h : ∀ k, k ≤ 3 → p + k + 1 ≤ s.size → ¬ mt s p k) : nx s p = (-1, 1) :=
  nx_no fun hok => h (led (gt s p)) (led_le _) hok.1 (mt_of_ok s p hok)
end Utf
end Go.Proofs.YtgcbeeokddaihaaDoor
/- The contracts of the document's own Num, Sign, Text; and of coder's Text. -/
namespace Go.Proofs.YtgcbeeokddaihaaDoor
open Go Go.RowKit

/-- bytes as a call may be handed them: what came in, or the call's own -/
structure Given (w : World) (p : Option Addr) (c : Nat) (l : List UInt8) : Prop where
  lies : Lies w p l
  le : l.length ≤ c
  none : p = none → l = [] ∧ c = 0
theorem Given.below {w w' : World} {p : Option Addr} {c : Nat} {l : List UInt8} (h : Given w p c l) (hb : Below w.heap.size w w') : Given w' p c l := ⟨h.lies.below hb, h.le, h.none⟩
theorem RetOwn.given {w w' : World} {ty : TypeId} {l : List UInt8} {e : Ending} (h : RetOwn w ty l e w') : ∃ p c, e = .returned (.slice p l.length c) ∧ Given w' p c l ∧ Below w.heap.size w w' := by
  obtain ⟨v, he, ho, hb⟩ := h
  obtain ⟨_, p, c, rfl, h1, _, h3, h4⟩ := own_lies ho
  exact ⟨p, c, he, ⟨h3, h1, h4⟩, hb⟩

theorem enc_len (x : Nat) : (Cod.enc x).length ≤ 9 := by rw [Cod.enc_length]; have := Cod.bh_le x; omega

set_option maxHeartbeats 1000000 in
theorem text_any (p : Option Addr) (c : Nat) (l : List UInt8) (s : ByteArray) (w : World) (h : Given w p c l) (hlen : l.length + s.size ≤ 140737488355000) :
    Calls Tryd.prog 70 #[.slice p l.length c, .string s] w (RetOwn w 5 (l ++ Cod.enc s.size ++ s.data.toList)) := by
  have hcut := cutOff_any p l.length c h.le w
  have hput := put_any w.heap.size (.slice p l.length l.length) l s.size w (.inr ⟨p, rfl, h.lies, fun e => (h.none e).1⟩) (Nat.le_refl _) (by omega) (by omega)
  have hel := enc_len s.size
  have HP := Lib.hid hput; clear hput h
  go_enter Tryd.func70, Tryd.ntmps70
  go_wp2_with fail
  refine hcut.mono ?_
  rintro e w' ⟨rfl, rfl⟩
  go_wp2_with fail
  refine HP.out.mono ?_
  rintro e w1 ⟨v, rfl, hown, hb⟩
  have hl2 : (l ++ Cod.enc s.size).length ≤ l.length + 9 := by simp; omega
  go_wp2_with (at_builtin; refine wpList_text isU8 Tryd.underlying9 _ rfl _ _ rfl w.heap.size _ (l ++ Cod.enc s.size) _ rfl hown s rfl (by omega) hb.size ?_)
  intro v' w2 hown' hb'
  go_wp2
  go_ret
  exact RetOwn.of_own (by rw [List.append_assoc]; exact hown') rfl (hb.trans hb')
end Go.Proofs.YtgcbeeokddaihaaDoor
/- The contract of the document's own Open. -/
namespace Go.Proofs.YtgcbeeokddaihaaDoor
open Go Go.RowKit

theorem sum2_of (p : Option Addr) (n c : Nat) (l : List UInt8) (w : World) (e : n = l.length) (h : Lies w p l) (hn : l.length ≤ 140737488355328) :
    Calls Tryd.prog 23 #[.slice p n c] w fun e w' => e = .returned (.int .u32 (Frm.crc l : Nat)) ∧ w = w' := by
  subst e; exact sum2_any p c l w h hn

/-- four bytes against a sum's: the first that parts, or none -/
def Parts (x0 x1 x2 x3 s : Nat) (good : Bool) : Prop :=
  (good = false ∧ ((x0 : Int) != (s : Int) / 16777216) = true) ∨
  (good = false ∧ ((x0 : Int) != (s : Int) / 16777216) = false ∧ ((x1 : Int) != (s : Int) / 65536 % 256) = true) ∨
  (good = false ∧ ((x0 : Int) != (s : Int) / 16777216) = false ∧ ((x1 : Int) != (s : Int) / 65536 % 256) = false ∧ ((x2 : Int) != (s : Int) / 256 % 256) = true) ∨
  (good = false ∧ ((x0 : Int) != (s : Int) / 16777216) = false ∧ ((x1 : Int) != (s : Int) / 65536 % 256) = false ∧ ((x2 : Int) != (s : Int) / 256 % 256) = false ∧ ((x3 : Int) != (s : Int) % 256) = true) ∨
  (good = true ∧ ((x0 : Int) != (s : Int) / 16777216) = false ∧ ((x1 : Int) != (s : Int) / 65536 % 256) = false ∧ ((x2 : Int) != (s : Int) / 256 % 256) = false ∧ ((x3 : Int) != (s : Int) % 256) = false)

theorem parts_of (a b c d : UInt8) (s : Nat) (hs : s < 4294967296) : Parts a.toNat b.toNat c.toNat d.toNat s (decide ([a, b, c, d] = be4 s)) := by
  have ha := a.toNat_lt; have hb := b.toNat_lt; have hc := c.toNat_lt; have hd := d.toNat_lt
  have q : ∀ (x : UInt8) (n : Nat), x = UInt8.ofNat n ↔ x.toNat = n % 256 := fun x n => by
    rw [← UInt8.toNat_inj, UInt8.toNat_ofNat']
  have key : ([a, b, c, d] = be4 s) ↔ (a.toNat = s / 16777216 ∧ b.toNat = s / 65536 % 256 ∧ c.toNat = s / 256 % 256 ∧ d.toNat = s % 256) := by
    unfold be4
    simp only [List.cons.injEq, and_true, q]
    omega
  by_cases h0 : a.toNat = s / 16777216
  · by_cases h1 : b.toNat = s / 65536 % 256
    · by_cases h2 : c.toNat = s / 256 % 256
      · by_cases h3 : d.toNat = s % 256
        · rw [decide_eq_true (key.2 ⟨h0, h1, h2, h3⟩)]
          exact .inr (.inr (.inr (.inr ⟨rfl, by simp; omega, by simp; omega, by simp; omega, by simp; omega⟩)))
        · rw [decide_eq_false (fun h => h3 (key.1 h).2.2.2)]
          exact .inr (.inr (.inr (.inl ⟨rfl, by simp; omega, by simp; omega, by simp; omega, by simp; omega⟩)))
      · rw [decide_eq_false (fun h => h2 (key.1 h).2.2.1)]
        exact .inr (.inr (.inl ⟨rfl, by simp; omega, by simp; omega, by simp; omega⟩))
    · rw [decide_eq_false (fun h => h1 (key.1 h).2.1)]
      exact .inr (.inl ⟨rfl, by simp; omega, by simp; omega⟩)
  · rw [decide_eq_false (fun h => h0 (key.1 h).1)]
    exact .inl ⟨rfl, by simp; omega⟩
theorem take4 {l : List UInt8} (h : 4 ≤ l.length) : l.take 4 = [l.getD 0 0, l.getD 1 0, l.getD 2 0, l.getD 3 0] := by
  match l, h with
  | a :: b :: c :: d :: l, _ => simp

end Go.Proofs.YtgcbeeokddaihaaDoor
/- One byte turned: the sum tells. -/
namespace Go.Proofs.YtgcbeeokddaihaaDoor
open Go Go.RowKit

theorem be4_inj {a b : Nat} (ha : a < 4294967296) (hb : b < 4294967296) (h : be4 a = be4 b) : a = b := by
  rw [← val_be4 a ha, ← val_be4 b hb, h]
theorem xor_ne {b d : UInt8} (h : d ≠ 0) : b ^^^ d ≠ b := by
  intro e
  have h2 : (b ^^^ d).toNat = b.toNat := by rw [e]
  rw [UInt8.toNat_xor] at h2
  exact h (UInt8.toNat_inj.1 (by simpa using Frm.xor_cancel (a := b.toNat) (b := d.toNat) h2.symm))
theorem opens_turned (l : List UInt8) (i : Nat) (hi : i < (sealed l).length) (d : UInt8) (hd : d ≠ 0) : opens ((sealed l).set i ((sealed l).getD i 0 ^^^ d)) = ([], 6) := by
  have hb4 : (be4 (Frm.crc l)).length = 4 := rfl
  have hlen := sealed_length l
  have ht : (sealed l).take 4 = be4 (Frm.crc l) := by simp [sealed, be4]
  have hdr : (sealed l).drop 4 = l := by simp [sealed, be4]
  unfold opens
  rw [if_neg (by simp; omega), if_neg]
  rw [List.take_set, List.drop_set, ht, hdr]
  by_cases h4 : i < 4
  · rw [if_pos h4]
    intro e
    have h1 := congrArg (fun t => t.getD i 0) e
    have h2 : (sealed l).getD i 0 = (be4 (Frm.crc l)).getD i 0 := by
      rw [← ht]; simp [List.getD, List.getElem?_take, h4]
    have h3 : i < (be4 (Frm.crc l)).length := by omega
    simp only [h2] at h1
    simp [List.getD, h3] at h1
    exact xor_ne hd h1
  · rw [if_neg h4, List.set_eq_of_length_le (by omega)]
    intro e
    have hj : i - 4 < l.length := by omega
    have h2 : (sealed l).getD i 0 = l[i - 4] := by
      have : (sealed l)[i]? = l[i - 4]? := by
        unfold sealed
        rw [List.getElem?_append_right (by omega), hb4]
      simp [List.getD, this, List.getElem?_eq_getElem hj]
    rw [h2] at e
    have hs : l.set (i - 4) (l[i - 4] ^^^ d) = l.take (i - 4) ++ [l[i - 4] ^^^ d] ++ l.drop (i - 4 + 1) := by
      rw [List.set_eq_take_append_cons_drop, if_pos hj]; simp
    have hl : l = l.take (i - 4) ++ [l[i - 4]] ++ l.drop (i - 4 + 1) := by
      conv => lhs; rw [← List.take_append_drop (i - 4) l, List.drop_eq_getElem_cons hj]
      simp
    have h5 := be4_inj (Frm.crc_lt _) (Frm.crc_lt _) e
    rw [hs] at h5
    have h6 : Frm.crc l = Frm.crc (l.take (i - 4) ++ [l[i - 4]] ++ l.drop (i - 4 + 1)) := congrArg Frm.crc hl
    exact Frm.crc_one _ _ _ _ hd (h5.symm.trans h6)

end Go.Proofs.YtgcbeeokddaihaaDoor
