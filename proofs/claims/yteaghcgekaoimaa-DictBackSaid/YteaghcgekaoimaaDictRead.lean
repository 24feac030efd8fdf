/- Dictionaries: Read, of a dictionary's own bytes. -/
import Derived.Test.YteaghcgekaoimaaDictAdd
import Derived.Test.YteaghcgekaoimaaCoderLive4
namespace Go.Proofs.Yteaghcgekaoimaa
open Go Go.RowKit
set_option linter.unusedVariables false

theorem ba_back (y : ByteArray) : (⟨y.data.toList.toArray⟩ : ByteArray) = y := by
  cases y; simp
/-- the bytes of r words from the k-th on -/
def tailD (l : List ByteArray) : Nat → Nat → List UInt8
  | _, 0 => []
  | k, r + 1 => chunkOf (aheadOf l k) (l.getD k noW) ++ tailD l (k + 1) r
theorem upto_tail (l : List ByteArray) : ∀ (r k : Nat), dictUpto l (k + r) = dictUpto l k ++ tailD l k r
  | 0, k => by simp [tailD]
  | r + 1, k => by
    have := upto_tail l r (k + 1)
    rw [show k + (r + 1) = k + 1 + r by omega, this]
    simp [dictUpto, tailD, List.append_assoc]
theorem tail_len (l : List ByteArray) (hp : Proper l) : ∀ (r k : Nat), k + r ≤ l.length → (tailD l k r).length ≤ 82 * r
  | 0, _, _ => by simp [tailD]
  | r + 1, k, h => by
    have h1 := tail_len l hp r (k + 1) (by omega)
    have h2 := chunk_len (aheadOf l k) (l.getD k noW)
    have h3 := hp k (by omega)
    simp only [okAt, goes, Bool.and_eq_true, decide_eq_true_eq] at h3
    simp only [tailD, List.length_append]; omega
theorem aheadOf_take (l : List ByteArray) (k : Nat) (h : k ≤ l.length) : aheadOf (l.take k) (l.take k).length = aheadOf l k := by
  have e : (l.take k).length = k := by rw [List.length_take]; omega
  rw [e]
  unfold aheadOf
  split
  · rfl
  · rw [List.getD_eq_getElem?_getD, List.getD_eq_getElem?_getD, List.getElem?_take_of_lt (by omega)]
theorem DcO.grown {w w' : World} {T D B : Nat} {l : List ByteArray} (h : DcO w T D l) (hg : w.grownBy w' (some B)) (hB : B < T) : DcO w' T D l := by
  obtain ⟨⟨v, h1, h2⟩, h3⟩ := h
  exact ⟨⟨v, (hg.block D (Array.getElem?_eq_some_iff.1 h1).1 (fun e => by have := Option.some.inj e; omega)).trans h1, own_stays h2 hg hB⟩, h3⟩
/-- what reading leaves: below T all is as it was, the reader aside -/
structure Bes1 (T B : Nat) (a w : World) : Prop where
  os : w.os = a.os
  tape : w.tape = a.tape
  output : w.output = a.output
  size : a.heap.size ≤ w.heap.size
  block : ∀ k, k < T → k ≠ B → w.heap[k]? = a.heap[k]?
theorem Bes1.refl (T B : Nat) (a : World) : Bes1 T B a a := ⟨rfl, rfl, rfl, Nat.le_refl _, fun _ _ _ => rfl⟩
theorem Bes1.grown {T B : Nat} {a w w' : World} (h : Bes1 T B a w) (hg : w.grownBy w' (some B)) (hT : T ≤ w.heap.size) : Bes1 T B a w' :=
  ⟨hg.os.trans h.os, hg.tape.trans h.tape, hg.output.trans h.output, Nat.le_trans h.size hg.size, fun k hk hn => (hg.block k (by omega) (fun e => hn (Option.some.inj e))).trans (h.block k hk hn)⟩
theorem Bes1.below {T B : Nat} {a w w' : World} (h : Bes1 T B a w) (hb : Below T w w') : Bes1 T B a w' :=
  ⟨hb.os.trans h.os, hb.tape.trans h.tape, hb.output.trans h.output, Nat.le_trans h.size hb.size, fun k hk hn => (hb.block k hk).trans (h.block k hk hn)⟩
def ReadTo (B : Nat) (l : List ByteArray) (b : List UInt8) (w : World) (e : Ending) (w' : World) : Prop :=
  ∃ D, e = .returned (.pointer (some ⟨D, 0, none⟩)) ∧ Dc w' D l ∧ Rd w' B b ∧ Bes1 w.heap.size B w w'
set_option maxHeartbeats 8000000 in
set_option maxRecDepth 100000 in
theorem dictRead_is (B : Nat) (l : List ByteArray) (b : List UInt8) (w : World) (h : Rd w B (dictUpto l l.length ++ b)) (hp : Proper l) (hl : l.length ≤ 16384) (hb : b.length ≤ 145000000000000) :
    Calls Try.prog 20 #[.pointer (some ⟨B, 0, none⟩)] w (ReadTo B l b w) := by
  have HP := Lib.hid hp
  have hBT := h.lt
  have e0 : dictUpto l l.length ++ b = Cod.enc l.length ++ (tailD l 0 l.length ++ b) := by
    have := upto_tail l l.length 0
    rw [Nat.zero_add] at this
    rw [this, List.append_assoc]; rfl
  rw [e0] at h
  have hT0 : Below w.heap.size w (w.alloc (.cells #[.slice none 0 0, .bool true] 53)) := (Below.refl _ _).alloc (Nat.le_refl _) _
  have R0 := h.below hT0
  have hel := encD_len l.length
  have htl := tail_len l hp l.length 0 (by omega)
  have NUM := Lib.hid (numIn_live B l.length 16384 (tailD l 0 l.length ++ b) _ R0 (by omega) (by omega) (by simp only [List.length_append]; omega))
  have D0 : Hid (DcO (w.alloc (.cells #[.slice none 0 0, .bool true] 53)) w.heap.size w.heap.size []) := ⟨⟨_, heap_alloc_new w _, ⟨rfl, .inl ⟨rfl, rfl⟩⟩⟩, Nat.le_refl _⟩
  have BS0 := Lib.hid ((Bes1.refl w.heap.size B w).below hT0)
  have HZ : Hid (w.heap.size ≤ (w.alloc (.cells #[.slice none 0 0, .bool true] 53)).heap.size) := hT0.size
  clear h hp e0 hT0 R0 hel htl
  go_enter Try.func20, Try.ntmps20
  go_wp2_with fail
  generalize w.alloc (.cells #[.slice none 0 0, .bool true] 53) = w0 at NUM D0 BS0 HZ ⊢
  refine NUM.out.mono ?_
  rintro e w1 ⟨rfl, hr1, hg1⟩
  have R1 := Lib.hid hr1
  have D1 := Lib.hid (D0.out.grown hg1 hBT)
  have S1 := Lib.hid (BS0.out.grown hg1 HZ.out)
  have Z1 : Hid (w.heap.size ≤ w1.heap.size) := Nat.le_trans HZ.out hg1.size
  clear hr1 hg1 NUM D0 BS0 HZ
  go_wp2_with fail
  go_loopw [4, 5, 12] (fun pr ln i wr => ∃ (k : Nat), k ≤ l.length ∧ pr = .bool true ∧ ln = .int .i64 ((aheadOf l k).size : Nat) ∧ i = .int .i64 k ∧ Rd wr B (tailD l k (l.length - k) ++ b) ∧ DcO wr w.heap.size w.heap.size (l.take k) ∧ Bes1 w.heap.size B w wr ∧ w.heap.size ≤ wr.heap.size) (fun _ _ i _ => l.length - (intOf i).toNat)
  case atStart => exact ⟨0, Nat.zero_le _, rfl, rfl, rfl, R1.out, D1.out, S1.out, Z1.out⟩
  case round =>
    obtain ⟨k, hk, rfl, rfl, rfl, hr, hd, hs, hz⟩ := hrel
    have RR := Lib.hid hr; have DD := Lib.hid hd; have SS := Lib.hid hs; have ZZ := Lib.hid hz
    clear hr hd hs hz R1 D1 S1 Z1
    by_cases hkl : k < l.length
    · have hkl' : (k : Int) < l.length := by omega
      have OK := HP.out k hkl
      have OKH := Lib.hid OK
      have hxs : (l.getD k noW).size ≤ 64 := by
        simp only [okAt, goes, Bool.and_eq_true, decide_eq_true_eq] at OK; exact OK.2
      have has : (aheadOf l k).size ≤ 64 := by
        cases k with
        | zero => simp [aheadOf]
        | succ m =>
          rw [aheadOf_succ]
          have := HP.out m (by omega)
          simp only [okAt, goes, Bool.and_eq_true, decide_eq_true_eq] at this; exact this.2
      have ht := tail_len l HP.out (l.length - (k + 1)) (k + 1) (by omega)
      have hchunk := chunk_len (aheadOf l k) (l.getD k noW)
      obtain ⟨rr, hrr⟩ : ∃ rr, l.length - k = rr + 1 := ⟨l.length - k - 1, by omega⟩
      have hr2 : l.length - (k + 1) = rr := by omega
      have RE := RR.out
      rw [hrr] at RE
      unfold tailD chunkOf at RE
      rw [hr2] at ht
      have AT := Lib.hid (aheadOf_take l k hk)
      have AS := Lib.hid (aheadOf_succ l k)
      have TK := Lib.hid (List.take_succ_eq_append_getElem hkl)
      have GD : Hid (l[k] = l.getD k noW) := by
        show l[k] = l.getD k noW
        simp [List.getD, List.getElem?_eq_getElem hkl]
      unfold okAt at OKH
      clear OK RR hchunk
      generalize l.getD k noW = x at hxs RE OKH AS GD
      generalize aheadOf l k = a at has RE OKH AT ⊢
      obtain ⟨n, hn⟩ : ∃ n, alikeB a x = n := ⟨_, rfl⟩
      have hle := alikeB_le a x
      unfold restOf at RE
      rw [hn] at RE hle
      have hrs : (x.extract n x.size).size = x.size - n := by rw [ByteArray.size_extract]; omega
      have HN := Lib.hid hn
      have hrl : (x.extract n x.size).data.toList.length = (x.extract n x.size).size := Array.length_toList
      have e1 : Cod.enc n ++ Cod.enc (x.extract n x.size).size ++ (x.extract n x.size).data.toList ++ tailD l (k + 1) rr ++ b = Cod.enc n ++ (Cod.enc (x.extract n x.size).data.toList.length ++ ((x.extract n x.size).data.toList ++ (tailD l (k + 1) rr ++ b))) := by
        rw [hrl]; simp only [List.append_assoc]
      rw [e1] at RE
      have hen := encD_len n
      have her := encD_len (x.extract n x.size).data.toList.length
      have N1 := Lib.hid (numIn_live B n (a.size : Nat) _ wr RE (by omega) (by omega) (by simp only [List.length_append]; omega))
      have T1 := Lib.hid (fun V hV => textIn_live B 64 (x.extract n x.size).data.toList (tailD l (k + 1) rr ++ b) V hV (by omega) (by omega) (by simp only [List.length_append]; omega))
      have e2 : (⟨(x.extract n x.size).data.toList.toArray⟩ : ByteArray) = x.extract n x.size := ba_back _
      rw [e2] at T1
      have hnx : (n : Int) + ((x.size - n : Nat) : Int) = (x.size : Int) := by omega
      clear e1 e2 hn hen her RE hrl ht
      go_wp2_with fail
      refine N1.out.mono ?_
      rintro e w2 ⟨rfl, hr2', hg2⟩
      have R2 := Lib.hid hr2'
      have D2 := Lib.hid (DD.out.grown hg2 hBT)
      have S2 := Lib.hid (SS.out.grown hg2 ZZ.out)
      have Z2 : Hid (w.heap.size ≤ w2.heap.size) := Nat.le_trans ZZ.out hg2.size
      clear hr2' hg2 N1 DD SS ZZ
      go_wp2_with fail
      refine (T1.out w2 R2.out).mono ?_
      rintro e w3 ⟨rfl, hr3, hg3⟩
      have R3 := Lib.hid hr3
      have D3 := Lib.hid (D2.out.grown hg3 hBT)
      have S3 := Lib.hid (S2.out.grown hg3 Z2.out)
      have Z3 : Hid (w.heap.size ≤ w3.heap.size) := Nat.le_trans Z2.out hg3.size
      have ER := Lib.hid (err_live B _ w3 hr3)
      have AD := Lib.hid (dictAdd_is w.heap.size w.heap.size (l.take k) x a n w3 D3.out Z3.out (by rw [List.length_take]; omega) AT.out has hxs HN.out OKH.out)
      clear hr3 hg3 T1 D2 S2 Z2 R2
      go_wp2_with fail
      refine ER.out.mono ?_
      rintro e w' ⟨rfl, rfl⟩
      clear ER
      go_wp2_with fail
      refine AD.out.mono ?_
      rintro e w4 ⟨rfl, hd4, hb4⟩
      have R4 := Lib.hid (R3.out.under hBT hb4)
      have D4 : Hid (DcO w4 w.heap.size w.heap.size (l.take (k + 1))) := by
        show DcO w4 w.heap.size w.heap.size (l.take (k + 1))
        rw [TK.out, GD.out]; exact hd4
      have S4 := Lib.hid (S3.out.below hb4)
      have Z4 : Hid (w.heap.size ≤ w4.heap.size) := Nat.le_trans Z3.out hb4.size
      clear hd4 hb4 AD D3 S3 R3 Z3
      go_wp2
      go_roundw
      case rel => exact ⟨k + 1, by omega, rfl, by rw [AS.out], by go_num, by rw [hr2]; exact R4.out, D4.out, S4.out, Z4.out⟩
      case measure => simp [intOf]; omega
    · obtain rfl : k = l.length := by omega
      have hkl' : ¬ ((l.length : Nat) : Int) < l.length := by omega
      have RB : Hid (Rd wr B b) := by
        have := RR.out
        rw [Nat.sub_self] at this
        exact this
      have DB : Hid (Dc wr w.heap.size l) := by
        have := DD.out.dc
        rw [List.take_length] at this
        exact this
      have ER := Lib.hid (err_live B b wr RB.out)
      go_wp2_with fail
      refine ER.out.mono ?_
      rintro e w' ⟨rfl, rfl⟩
      clear ER
      go_wp2
      go_ret
      exact ⟨_, rfl, DB.out, RB.out, SS.out⟩
end Go.Proofs.Yteaghcgekaoimaa
