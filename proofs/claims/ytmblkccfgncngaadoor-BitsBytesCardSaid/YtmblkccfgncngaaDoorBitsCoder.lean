/- A set's bytes, and a set of its own bytes. -/
import Derived.Test.YtmblkccfgncngaaDoorBitsVoid
import Derived.Test.YtmblkccfgncngaaDoorCoderRise2
import Derived.Test.YtmblkccfgncngaaDoorStd
namespace Go.Proofs.YtmblkccfgncngaaDoor
open Go Go.RowKit
set_option linter.unusedVariables false

namespace Bit
theorem mem_nums (f : Nat → Bool) (m i : Nat) : i ∈ nums f m ↔ i < m ∧ f i = true := by
  induction m with
  | zero => simp [nums]
  | succ m ih =>
    simp only [nums, List.mem_append, ih]
    by_cases hf : f m = true
    · simp only [hf, if_true, List.mem_singleton]
      constructor
      · rintro (⟨h1, h2⟩ | rfl)
        · exact ⟨by omega, h2⟩
        · exact ⟨by omega, hf⟩
      · rintro ⟨h1, h2⟩
        by_cases h : i = m
        · exact .inr h
        · exact .inl ⟨by omega, h2⟩
    · simp only [hf]
      constructor
      · rintro (⟨h1, h2⟩ | h)
        · exact ⟨by omega, h2⟩
        · simp at h
      · rintro ⟨h1, h2⟩
        refine .inl ⟨?_, h2⟩
        rcases Nat.lt_succ_iff_lt_or_eq.1 h1 with h | rfl
        · exact h
        · exact absurd h2 hf
theorem nums_lt (f : Nat → Bool) (m k : Nat) (h : k < (nums f m).length) : (nums f m).getD k 0 < m := by
  have : (nums f m).getD k 0 ∈ nums f m := by
    rw [List.getD_eq_getElem?_getD, List.getElem?_eq_getElem h]
    exact List.getElem_mem _
  exact ((mem_nums f m _).1 this).1
end Bit
theorem castsN_getD (l : List Nat) (k : Nat) (h : k < l.length) : (castsN l).getD k 0 = ((l.getD k 0 : Nat) : Int) := by
  simp [castsN, List.getD, List.getElem?_eq_getElem h]
theorem lastOf_snoc (l : List Int) (x : Int) (k : Nat) (h : k ≤ l.length) : Cod.lastOf (l ++ [x]) k = Cod.lastOf l k := by
  unfold Cod.lastOf
  split
  · rfl
  · rename_i h0
    simp only [List.getD]
    rw [List.getElem?_append_left (by omega)]
theorem nums_rise (f : Nat → Bool) (m : Nat) : Cod.riseN (castsN (Bit.nums f m)) = (castsN (Bit.nums f m)).length ∧ Cod.lastOf (castsN (Bit.nums f m)) (castsN (Bit.nums f m)).length < m := by
  induction m with
  | zero => exact ⟨rfl, by simp [Bit.nums, castsN, Cod.lastOf]⟩
  | succ m ih =>
    obtain ⟨h1, h2⟩ := ih
    simp only [Bit.nums]
    by_cases hf : f m = true
    · rw [if_pos hf]
      have e : castsN (Bit.nums f m ++ [m]) = castsN (Bit.nums f m) ++ [(m : Int)] := by simp [castsN]
      rw [e]
      refine ⟨Cod.rise_snoc _ _ h1 h2, ?_⟩
      unfold Cod.lastOf
      simp [List.getD]
      omega
    · rw [if_neg hf, List.append_nil]
      exact ⟨h1, by omega⟩
theorem nums_in (f : Nat → Bool) (m : Nat) (hm : m ≤ 65536) : InI (castsN (Bit.nums f m)) := by
  intro i hi
  rw [castsN_len] at hi
  rw [castsN_getD _ _ hi]
  have := Bit.nums_lt f m i hi
  omega
theorem rising_lenB (l : List Int) : (Cod.rising l).length ≤ 9 + 9 * l.length := by
  unfold Cod.rising
  rw [List.length_append]
  have h1 := enc_len (Cod.riseN l)
  have h2 := Cod.gaps_length l (Cod.riseN l)
  have h3 := Cod.riseN_le l
  omega
/-- a set's bytes -/
def setBytes (n : Nat) (f : Nat → Bool) : List UInt8 := Cod.enc n ++ Cod.rising (castsN (Bit.nums f n))
theorem setBytes_len (n : Nat) (f : Nat → Bool) (hn : n ≤ 65536) : 0 < (setBytes n f).length ∧ (setBytes n f).length ≤ 700000 := by
  unfold setBytes
  rw [List.length_append]
  have h1 := enc_len n
  have h2 := rising_lenB (castsN (Bit.nums f n))
  rw [castsN_len, Bit.nums_len] at h2
  have h3 := Bit.cnt_le f n
  have h4 := Cod.enc_length n
  omega
set_option maxHeartbeats 1000000 in
theorem bytes_is (a G n : Nat) (f : Nat → Bool) (w : World) (h : St w a G n f) (hT : DeB w) : Calls Tryd.prog 32 #[.pointer (some ⟨a, 0, none⟩)] w (RetOwn w 5 (setBytes n f)) := by
  have Z := Lib.hid h.sized.calls
  have hle := h.le
  have NM := Lib.hid (num_any none 0 [] n w (Lies.nil _ _) (fun _ => rfl) (Nat.le_refl _) (by simp [Lit.wf, IntKind.min, IntKind.max, IntKind.bits, IntKind.signed]; omega) (by simp))
  have H := Lib.hid h; have HT := Lib.hid hT
  have hcl := Bit.cnt_le f n
  clear h hT
  go_enter Tryd.func32, Tryd.ntmps32
  go_wp2_with fail
  refine Z.out.mono ?_
  rintro e w' ⟨rfl, rfl⟩
  clear Z
  go_wp2_with fail
  refine NM.out.mono ?_
  intro e w1 hr1
  obtain ⟨p, c, rfl, hg1, hb1⟩ := hr1.given
  have G1 := Lib.hid hg1; have B1 := Lib.hid hb1
  have L := Lib.hid (list_is a G n f w1 (H.out.below hb1) (HT.out.below hb1))
  clear hr1 hg1 hb1 NM
  go_wp2_with fail
  refine L.out.mono ?_
  rintro e w2 ⟨v2, rfl, ho2, hb2⟩
  obtain ⟨_, q, d, rfl, hd, hl2, _⟩ := own_liesI ho2
  have R := Lib.hid (rising_any p q c d ([] ++ Cod.enc (n : Int).toNat) (castsN (Bit.nums f n)) w2 (G1.out.below hb2) hl2 (nums_in f n hle) (by
    have := enc_len (n : Int).toNat
    rw [castsN_len, Bit.nums_len]
    simp only [List.nil_append]
    omega))
  have B2 := Lib.hid (thenBelow B1.out hb2)
  clear ho2 hb2 hl2 L
  go_wp2_with fail
  refine R.out.mono ?_
  intro e w3 hr3
  have R3 := Lib.hid (hr3.after B2.out)
  obtain ⟨v3, rfl, ho3, hb3⟩ := hr3
  clear ho3 hb3
  go_wp2
  go_ret
  have := R3.out
  simp only [List.nil_append, Int.toNat_natCast] at this
  exact this
theorem end_live (B : Nat) (w : World) (h : Rd w B []) : Calls Tryd.prog 38 #[.pointer (some ⟨B, 0, none⟩)] w fun e w' => e = .returned (.int .i64 0) ∧ w = w' := by
  have E := Lib.hid (err_live B [] w h)
  have L := Lib.hid (left_live B [] w h)
  clear h
  go_enter Tryd.func38, Tryd.ntmps38
  go_wp2_with fail
  refine E.out.mono ?_
  rintro e w' ⟨rfl, rfl⟩
  go_wp2_with fail
  refine L.out.mono ?_
  rintro e w' ⟨rfl, rfl⟩
  go_wp2
  go_ret
  exact ⟨rfl, rfl⟩
/-- the first numbers of a list, as a set -/
def firsts (l : List Nat) (k : Nat) : Nat → Bool := fun i => decide (i ∈ l.take k)
theorem firsts_step (l : List Nat) (k : Nat) (h : k < l.length) : firsts l (k + 1) = Bit.turn (firsts l k) (l.getD k 0) true := by
  funext i
  unfold firsts Bit.turn
  rw [List.take_succ_eq_append_getElem h, List.getD_eq_getElem?_getD, List.getElem?_eq_getElem h]
  show decide (i ∈ l.take k ++ [l[k]]) = if i = l[k] then true else decide (i ∈ l.take k)
  by_cases hi : i = l[k]
  · rw [if_pos hi]
    exact decide_eq_true (List.mem_append.2 (.inr (List.mem_singleton.2 hi)))
  · rw [if_neg hi]
    have : i ∈ l.take k ++ [l[k]] ↔ i ∈ l.take k := ⟨fun q => (List.mem_append.1 q).elim id (fun q => absurd (List.mem_singleton.1 q) hi), fun q => List.mem_append.2 (.inl q)⟩
    exact decide_eq_decide.2 this
theorem firsts_all (f : Nat → Bool) (n : Nat) (hp : ∀ i, n ≤ i → f i = false) : firsts (Bit.nums f n) (Bit.nums f n).length = f := by
  funext i
  unfold firsts
  rw [List.take_length]
  by_cases h : f i = true
  · rw [h]
    have hi : i < n := by
      rcases Nat.lt_or_ge i n with e | e
      · exact e
      · rw [hp i e] at h; cases h
    exact decide_eq_true ((Bit.mem_nums f n i).2 ⟨hi, h⟩)
  · rw [Bool.eq_false_iff.2 h]
    exact decide_eq_false fun hm => h ((Bit.mem_nums f n i).1 hm).2

def ReadTo (w : World) (B n : Nat) (f : Nat → Bool) (l : List UInt8) (e : Ending) (w' : World) : Prop :=
  ∃ a G, e = .returned (.pointer (some ⟨a, 0, none⟩)) ∧ w.heap.size ≤ a ∧ w.heap.size ≤ G ∧ St w' a G n f ∧ Rd w' B l ∧ w.grownBy w' (some B)
set_option maxHeartbeats 4000000 in
set_option maxRecDepth 100000 in
theorem readSet_is (B n : Nat) (f : Nat → Bool) (l : List UInt8) (w : World) (h : Rd w B (setBytes n f ++ l)) (hn : n ≤ 65536) (hp : ∀ i, n ≤ i → f i = false) (hl : l.length ≤ 100000000) :
    Calls Tryd.prog 34 #[.pointer (some ⟨B, 0, none⟩)] w (ReadTo w B n f l) := by
  have hsl := setBytes_len n f hn
  have hBw := h.lt
  obtain ⟨hr1, hr2⟩ := nums_rise f n
  have hcl := Bit.cnt_le f n
  have hlen : (castsN (Bit.nums f n)).length = Bit.cnt f n := by rw [castsN_len, Bit.nums_len]
  have hb0 : (Cod.rising (castsN (Bit.nums f n)) ++ l).length ≤ 140737488300000 := by
    have := rising_lenB (castsN (Bit.nums f n)); rw [List.length_append]; omega
  have hb : (Cod.rising (castsN (Bit.nums f n)) ++ l).length ≤ 140737488355328 := by omega
  have NI := Lib.hid (numIn_live B n 65536 (Cod.rising (castsN (Bit.nums f n)) ++ l) w (by unfold setBytes at h; rw [List.append_assoc] at h; exact h) (by omega) (by omega) (by
    rw [List.length_append]; have := enc_len n; omega))
  have RI : Hid (∀ w, Rd w B (Cod.rising (castsN (Bit.nums f n)) ++ l) → Calls Tryd.prog 57 #[.pointer (some ⟨B, 0, none⟩), .int .i64 n, .int .i64 ((n : Int) - 1)] w (GotI w B (castsN (Bit.nums f n)) l)) := fun w hw =>
    risingIn_live B n ((n : Int) - 1) _ l w hw hr1 ⟨by omega, by omega⟩ ⟨by omega, by omega⟩ (fun i hi => by
      rw [castsN_len] at hi
      rw [castsN_getD _ _ hi]
      have := Bit.nums_lt f n i hi
      omega) hb
  have HP := Lib.hid hp; have HL := Lib.hid hlen
  clear h hsl hr1 hr2 hb hb0 hp hlen
  go_enter Tryd.func34, Tryd.ntmps34
  go_wp2_with fail
  refine NI.out.mono ?_
  rintro e w1 ⟨rfl, hr1, hg1⟩
  have G1 := Lib.hid hg1
  have R2 := Lib.hid (RI.out w1 hr1)
  clear hg1 hr1 NI RI
  go_wp2_with fail
  refine R2.out.mono ?_
  rintro e w2 ⟨v2, rfl, ho2, hr2, hg2⟩
  obtain ⟨_, q, d, rfl, hd, hl2, _⟩ := own_liesI ho2
  have G2 := Lib.hid (grown_trans G1.out hg2)
  have RD := Lib.hid hr2
  have L2 := Lib.hid hl2
  have ER := Lib.hid (err_live B l w2 hr2)
  have N := Lib.hid (newSet n n w2 (by omega) (by omega) (by omega))
  have hcn : (castsN (Bit.nums f n)).length ≤ 65536 := by rw [HL.out]; omega
  clear ho2 hg2 hr2 hl2 R2 G1
  go_wp2_with fail
  refine ER.out.mono ?_
  rintro e w' ⟨rfl, rfl⟩
  clear ER
  go_wp2_with fail
  refine N.out.mono ?_
  rintro e w3 ⟨a, G, rfl, ha, hG, hst, hb3⟩
  have S3 := Lib.hid hst; have B3 := Lib.hid hb3
  clear N hst hb3
  go_wp2
  go_loopw [23] (fun i wr => ∃ k : Nat, k ≤ (castsN (Bit.nums f n)).length ∧ i = .int .i64 k ∧ St wr a G n (firsts (Bit.nums f n) k) ∧ Below w2.heap.size w2 wr) (fun i _ => (castsN (Bit.nums f n)).length - (intOf i).toNat)
  case atStart => exact ⟨0, Nat.zero_le _, rfl, by (have e : firsts (Bit.nums f n) 0 = fun _ => false := (by funext i; simp [firsts])); rw [e]; exact S3.out, B3.out⟩
  case round =>
    obtain ⟨k, hk, rfl, hst, hb⟩ := hrel
    have S := Lib.hid hst; have BB := Lib.hid hb
    clear hst hb
    by_cases hlt : k < (castsN (Bit.nums f n)).length
    · obtain ⟨b1, o1, rfl, _, q1⟩ := (L2.out.below BB.out).at (by omega)
      have r1 := q1 k hlt
      clear q1
      have hlt2 : k < (Bit.nums f n).length := by rw [← castsN_len]; exact hlt
      rw [castsN_getD _ _ hlt2] at r1
      have hx := Bit.nums_lt f n k hlt2
      have FS := Lib.hid (firsts_step (Bit.nums f n) k hlt2)
      generalize (Bit.nums f n).getD k 0 = x at r1 hx FS
      have PU := Lib.hid (put_in a G n _ x wr S.out hx)
      have hlt' : (k : Int) < (castsN (Bit.nums f n)).length := by omega
      clear hlt2
      go_wp2_with fail
      refine PU.out.mono ?_
      intro e w4 ht4
      have B4 := Lib.hid (BB.out.trans (turned_below ht4 hG BB.out.size))
      obtain ⟨rfl, hst4, _⟩ := ht4
      have S4 := Lib.hid hst4
      clear hst4 PU
      go_wp2
      go_roundw
      case rel => exact ⟨k + 1, by omega, by go_num, by rw [FS.out]; exact S4.out, B4.out⟩
      case measure => simp [intOf]; omega
    · obtain rfl : k = (castsN (Bit.nums f n)).length := by omega
      have hlt' : ¬ (((castsN (Bit.nums f n)).length : Nat) : Int) < (castsN (Bit.nums f n)).length := by omega
      go_wp2
      go_ret
      refine ⟨a, G, rfl, Nat.le_trans G2.out.size ha, Nat.le_trans G2.out.size hG, ?_, RD.out.below BB.out, grown_below G2.out (BB.out.mono G2.out.size |>.mono (Nat.le_refl _))⟩
      have := S.out
      rw [castsN_len, firsts_all f n HP.out] at this
      exact this
end Go.Proofs.YtmblkccfgncngaaDoor
