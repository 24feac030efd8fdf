/- The statement WireDecodes, proved for every input that its row reads: part 40 of 54. -/
import Derived.Test.YtapmbankpbiglaaGreatDoorPackWireDecodes19
import Derived.Test.YtapmbankpbiglaaGreatDoorPackWireDecodes35
import Derived.Test.YtapmbankpbiglaaGreatDoorPackWireDecodes7
import Derived.Test.YtapmbankpbiglaaGreatDoorPackWireDecodes39
/- A vector's bytes: its places that are not 0, as numbers that rise, and what stands there; what reading any bytes comes to. No function of a program stands here. -/
namespace Go.Proofs.YtapmbankpbiglaaGreatDoor
open Go Go.RowKit
set_option linter.unusedVariables false

namespace Cod
/-! ### reading what was written -/
theorem ofNat_mod (n : Nat) : (UInt8.ofNat n).toNat = n % 256 := by simp
theorem fold_dig (x k : Nat) : fold (x / 256 ^ k) (dig k x) = x := by
  induction k with
  | zero => simp [dig, fold]
  | succ k ih =>
    simp only [dig, fold, ofNat_mod]
    have h : x / 256 ^ (k + 1) * 256 + x / 256 ^ k % 256 = x / 256 ^ k := by
      rw [Nat.pow_succ, ← Nat.div_div_eq_div_mul]
      omega
    rw [h, ih]
theorem next_enc (x : Nat) (hx : x < 18446744073709551616) (m : List UInt8) : next (enc x ++ m) = (x, m, 0) := by
  have h1 := head_lt x hx
  have e : (UInt8.ofNat (head x (bh x))).toNat = head x (bh x) := by rw [ofNat_mod]; omega
  have ho : ones (UInt8.ofNat (head x (bh x))).toNat = bh x := by rw [e]; exact head_ones x hx
  have hf : frst (UInt8.ofNat (head x (bh x))).toNat = x / 256 ^ bh x := by
    unfold frst; rw [ho, e]; exact top_of x hx
  have hl : (dig (bh x) x).length = bh x := dig_length _ _
  unfold enc
  rw [List.cons_append]
  unfold next
  simp only [ho, hf]
  rw [if_neg (by rw [List.length_append, hl]; omega), List.take_left' hl, List.drop_left' hl, fold_dig, if_pos rfl]
theorem numS_enc (x : Nat) (most : Int) (h1 : (x : Int) ≤ most) (h2 : x < 9223372036854775808) (m : List UInt8) : numS most (enc x ++ m, 0) = (x, m, 0) := by
  have e : anyS (enc x ++ m, 0) = (x, m, 0) := by unfold anyS; rw [if_pos rfl]; exact next_enc x (by omega) m
  unfold numS
  rw [e, if_neg (by simp only; omega)]
theorem riseS_back (l : List Int) (top : Int) (m : List UInt8) (hr : riseN l = l.length) (ht : ∀ i, i < l.length → l.getD i 0 ≤ top) (h63 : top ≤ 9223372036854775807) :
    ∀ d k, k + d = l.length → riseS top d (lastOf l k) (l.take k) (rem l l.length k ++ m, 0) = (some l, m, 0) := by
  intro d
  induction d with
  | zero =>
    intro k hk
    obtain rfl : k = l.length := by omega
    unfold riseS
    rw [rem_end, List.take_length, List.nil_append]
  | succ d ih =>
    intro k hk
    have hlt := rise_lt l k (by omega)
    have hge := last_ge l k (by omega)
    have hto := ht k (by omega)
    have hg : ((gap l k : Nat) : Int) = l.getD k 0 - (lastOf l k + 1) := by unfold gap; omega
    have hn : numS (top - 1 - lastOf l k) (rem l l.length k ++ m, 0) = (gap l k, rem l l.length (k + 1) ++ m, 0) := by
      rw [rem_step l l.length k (by omega), List.append_assoc]
      exact numS_enc _ _ (by omega) (by omega) _
    unfold riseS
    rw [hn]
    simp only [if_true]
    have e1 : lastOf l k + 1 + ((gap l k : Nat) : Int) = l.getD k 0 := by omega
    have e2 : lastOf l (k + 1) = l.getD k 0 := by simp [lastOf]
    have e3 : l.take (k + 1) = l.take k ++ [l.getD k 0] := by
      rw [List.take_succ_eq_append_getElem (by omega), List.getD_eq_getElem?_getD, List.getElem?_eq_getElem (by omega)]; rfl
    rw [e1]
    have := ih (k + 1) (by omega)
    rw [e2, e3] at this
    exact this
theorem riseAll_back (l : List Int) (many top : Int) (m : List UInt8) (hr : riseN l = l.length) (hm : (l.length : Int) ≤ many) (hl : l.length < 9223372036854775808) (ht : ∀ i, i < l.length → l.getD i 0 ≤ top) (h63 : top ≤ 9223372036854775807) :
    riseAll many top (rising l ++ m, 0) = (some l, m, 0) := by
  unfold riseAll rising
  rw [hr, List.append_assoc, numS_enc _ _ hm hl]
  simp only
  have := riseS_back l top m hr ht h63 l.length 0 (by omega)
  rw [rem_zero] at this
  exact this
end Cod

/-! ### places that are not 0 -/
def pl (f : Nat → Int) : Nat → List Int
  | 0 => []
  | k + 1 => if f k = 0 then pl f k else pl f k ++ [(k : Int)]
theorem pl_len (f : Nat → Int) (k : Nat) : (pl f k).length ≤ k := by
  induction k with
  | zero => simp [pl]
  | succ k ih =>
    simp only [pl]; split
    · omega
    · rw [List.length_append]; simp; omega
theorem mem_pl (f : Nat → Int) (k : Nat) (x : Int) : x ∈ pl f k ↔ ∃ i : Nat, i < k ∧ f i ≠ 0 ∧ x = i := by
  induction k with
  | zero => simp [pl]
  | succ k ih =>
    simp only [pl]
    by_cases h : f k = 0
    · rw [if_pos h, ih]
      constructor
      · rintro ⟨i, h1, h2, h3⟩; exact ⟨i, by omega, h2, h3⟩
      · rintro ⟨i, h1, h2, h3⟩
        by_cases e : i = k
        · subst e; exact absurd h h2
        · exact ⟨i, by omega, h2, h3⟩
    · rw [if_neg h, List.mem_append, ih]
      constructor
      · rintro (⟨i, h1, h2, h3⟩ | h1)
        · exact ⟨i, by omega, h2, h3⟩
        · simp at h1; exact ⟨k, by omega, h, h1⟩
      · rintro ⟨i, h1, h2, h3⟩
        by_cases e : i = k
        · subst e; right; simp [h3]
        · left; exact ⟨i, by omega, h2, h3⟩
theorem pl_at (f : Nat → Int) (n k : Nat) (h : k < (pl f n).length) : ∃ i : Nat, i < n ∧ f i ≠ 0 ∧ (pl f n).getD k 0 = (i : Int) := by
  have h1 : (pl f n).getD k 0 ∈ pl f n := by rw [List.getD_eq_getElem?_getD, List.getElem?_eq_getElem h]; exact List.getElem_mem h
  exact (mem_pl f n _).1 h1
theorem pl_rise (f : Nat → Int) (n : Nat) : Cod.riseN (pl f n) = (pl f n).length ∧ Cod.lastOf (pl f n) (pl f n).length < n := by
  induction n with
  | zero => simp [pl, Cod.riseN, Cod.riseFrom, Cod.lastOf]
  | succ n ih =>
    simp only [pl]
    split
    · exact ⟨ih.1, by omega⟩
    · refine ⟨Cod.rise_snoc _ _ ih.1 ih.2, ?_⟩
      rw [List.length_append]
      simp [Cod.lastOf]
      omega
theorem pl_in (f : Nat → Int) (n : Nat) (hn : n ≤ 64) : InI (pl f n) := by
  intro k hk
  obtain ⟨i, h1, _, h2⟩ := pl_at f n k hk
  omega
theorem pl_top (f : Nat → Int) (n k : Nat) (hk : k < (pl f n).length) : (pl f n).getD k 0 ≤ (n : Int) - 1 := by
  obtain ⟨i, h1, _, h2⟩ := pl_at f n k hk
  omega

/-! ### a vector's bytes -/
def tls (f : Nat → Int) : List Int → List UInt8
  | [] => []
  | x :: l => Cod.enc (f x.toNat - 1).toNat ++ tls f l
theorem tls_app (f : Nat → Int) (a b : List Int) : tls f (a ++ b) = tls f a ++ tls f b := by
  induction a with
  | nil => rfl
  | cons x a ih => simp [tls, ih]
theorem tls_len (f : Nat → Int) (l : List Int) : (tls f l).length ≤ 9 * l.length := by
  induction l with
  | nil => simp [tls]
  | cons x l ih => have := enc_len (f x.toNat - 1).toNat; simp only [tls, List.length_append, List.length_cons]; omega
theorem take_getD (l : List Int) (k : Nat) (h : k < l.length) : l.take (k + 1) = l.take k ++ [l.getD k 0] := by
  rw [List.take_succ_eq_append_getElem h, List.getD_eq_getElem?_getD, List.getElem?_eq_getElem h]; rfl
theorem tls_step (f : Nat → Int) (l : List Int) (k : Nat) (h : k < l.length) : tls f (l.take (k + 1)) = tls f (l.take k) ++ Cod.enc (f (l.getD k 0).toNat - 1).toNat := by
  rw [take_getD l k h, tls_app]; simp [tls]
def vbytes (f : Nat → Int) : List UInt8 := if goodB f = true then Cod.rising (pl f 64) ++ tls f (pl f 64) else []
theorem rising_len64 (l : List Int) : (Cod.rising l).length ≤ 9 + 9 * l.length := by
  unfold Cod.rising
  have h1 := enc_len (Cod.riseN l)
  have h2 := Cod.gaps_length l (Cod.riseN l)
  have h3 := Cod.riseN_le l
  rw [List.length_append]; omega
theorem vbytes_len (f : Nat → Int) : (vbytes f).length ≤ 1200 := by
  unfold vbytes
  split
  · have h1 := rising_len64 (pl f 64)
    have h2 := tls_len f (pl f 64)
    have h3 := pl_len f 64
    rw [List.length_append]; omega
  · simp

/-! ### a vector of any bytes -/
def fillS : List Int → (Nat → Int) → Cod.S → (Nat → Int) × Cod.S
  | [], f, s => (f, s)
  | x :: l, f, s => fillS l (vset f x.toNat (((Cod.numS 1073741823 s).1 : Int) + 1)) (Cod.numS 1073741823 s).2
theorem fillS_app (a b : List Int) : ∀ (f : Nat → Int) (s : Cod.S), fillS (a ++ b) f s = fillS b (fillS a f s).1 (fillS a f s).2 := by
  induction a with
  | nil => intro f s; rfl
  | cons x a ih => intro f s; exact ih _ _
theorem fillS_step (l : List Int) (f : Nat → Int) (s : Cod.S) (k : Nat) (h : k < l.length) :
    fillS (l.take (k + 1)) f s = (vset (fillS (l.take k) f s).1 (l.getD k 0).toNat (((Cod.numS 1073741823 (fillS (l.take k) f s).2).1 : Int) + 1), (Cod.numS 1073741823 (fillS (l.take k) f s).2).2) := by
  rw [take_getD l k h, fillS_app]; rfl
theorem fillS_len (l : List Int) : ∀ (f : Nat → Int) (s : Cod.S), (fillS l f s).2.1.length ≤ s.1.length := by
  induction l with
  | nil => intro f s; exact Nat.le_refl _
  | cons x l ih => intro f s; exact Nat.le_trans (ih _ _) (Cod.numS_len _ _)
def rdL (s : Cod.S) : List Int := (Cod.riseAll 64 63 s).1.getD []
def rdS (s : Cod.S) : (Nat → Int) × Cod.S := fillS (rdL s) (fun _ => 0) (Cod.riseAll 64 63 s).2
def outS (s : Cod.S) : Cod.S := (rdS s).2
def outV (s : Cod.S) : Nat → Int := if (outS s).2 = 0 then (rdS s).1 else fun _ => 0
/-- the numbers of a place that were read are places -/
def InL (top : Int) (l : List Int) : Prop := ∀ x ∈ l, 0 ≤ x ∧ x ≤ top
theorem riseS_inL (top : Int) (n : Nat) : ∀ (last : Int) (acc : List Int) (s : Cod.S), -1 ≤ last → InL top acc → InL top ((Cod.riseS top n last acc s).1.getD []) := by
  induction n with
  | zero => intro last acc s _ h; exact h
  | succ n ih =>
    intro last acc s h1 h2
    unfold Cod.riseS
    split
    · rename_i h0
      have h3 := (Cod.numS_le h0).1
      refine ih _ _ _ (by omega) ?_
      intro x hx
      rcases List.mem_append.1 hx with h4 | h4
      · exact h2 x h4
      · simp at h4; omega
    · intro x hx; simp at hx
theorem riseS_lenL (top : Int) (n : Nat) : ∀ (last : Int) (acc : List Int) (s : Cod.S), ((Cod.riseS top n last acc s).1.getD []).length ≤ acc.length + n := by
  induction n with
  | zero => intro last acc s; unfold Cod.riseS; simp
  | succ n ih =>
    intro last acc s
    unfold Cod.riseS
    split
    · refine Nat.le_trans (ih _ _ _) ?_
      simp; omega
    · simp
theorem riseS_left (top : Int) (n : Nat) : ∀ (last : Int) (acc : List Int) (s : Cod.S), (Cod.riseS top n last acc s).2.1.length ≤ s.1.length := by
  induction n with
  | zero => intro last acc s; exact Nat.le_refl _
  | succ n ih =>
    intro last acc s
    unfold Cod.riseS
    split
    · exact Nat.le_trans (ih _ _ _) (Cod.numS_len _ _)
    · exact Cod.numS_len _ _
theorem rdL_in (s : Cod.S) : InL 63 (rdL s) := riseS_inL _ _ _ _ _ (by omega) (fun x hx => by simp at hx)
theorem rdL_at (s : Cod.S) (k : Nat) (h : k < (rdL s).length) : ∃ i : Nat, i < 64 ∧ (rdL s).getD k 0 = (i : Int) := by
  have h1 : (rdL s).getD k 0 ∈ rdL s := by rw [List.getD_eq_getElem?_getD, List.getElem?_eq_getElem h]; exact List.getElem_mem h
  obtain ⟨h2, h3⟩ := rdL_in s _ h1
  exact ⟨((rdL s).getD k 0).toNat, by omega, by omega⟩
theorem rdR_len (s : Cod.S) : (Cod.riseAll 64 63 s).2.1.length ≤ s.1.length := Nat.le_trans (riseS_left _ _ _ _ _) (Cod.numS_len _ _)
theorem outS_len (s : Cod.S) : (outS s).1.length ≤ s.1.length := Nat.le_trans (fillS_len _ _ _) (rdR_len s)
theorem fill_back (f : Nat → Int) (hg : ∀ i, i < 64 → 0 ≤ f i ∧ f i ≤ 1073741824) (m : List UInt8) (l : List Int) : (∀ x ∈ l, ∃ i : Nat, i < 64 ∧ f i ≠ 0 ∧ x = i) → ∀ g : Nat → Int,
    (fillS l g (tls f l ++ m, 0)).2 = (m, 0) ∧ ∀ i, (fillS l g (tls f l ++ m, 0)).1 i = if (i : Int) ∈ l then f i else g i := by
  induction l with
  | nil => intro _ g; exact ⟨rfl, fun i => by simp [fillS]⟩
  | cons x l ih =>
    intro h g
    obtain ⟨j, hj, hj0, rfl⟩ := h x (by simp)
    have hgj := hg j hj
    have hn : Cod.numS 1073741823 (tls f ((j : Int) :: l) ++ m, 0) = ((f j - 1).toNat, tls f l ++ m, 0) := by
      show Cod.numS 1073741823 (Cod.enc (f (j : Int).toNat - 1).toNat ++ tls f l ++ m, 0) = _
      rw [List.append_assoc, Int.toNat_natCast]
      exact Cod.numS_enc (f j - 1).toNat 1073741823 (by omega) (by omega) _
    obtain ⟨i1, i2⟩ := ih (fun y hy => h y (by simp [hy])) (vset g j (((f j - 1).toNat : Int) + 1))
    unfold fillS
    rw [hn]
    simp only [Int.toNat_natCast]
    refine ⟨i1, fun i => ?_⟩
    rw [i2 i]
    by_cases h1 : (i : Int) ∈ l
    · rw [if_pos h1, if_pos (by simp [h1])]
    · rw [if_neg h1]
      by_cases h2 : i = j
      · subst h2
        rw [if_pos (by simp)]
        simp only [vset, if_true]
        omega
      · rw [if_neg (by simp [h1]; omega)]
        simp [vset, h2]
/-- what was written is read -/
theorem vec_back (f : Nat → Int) (hg : goodB f = true) (m : List UInt8) : outS (vbytes f ++ m, 0) = (m, 0) ∧ ∀ i, i < 64 → outV (vbytes f ++ m, 0) i = f i := by
  have hg2 := (good_iff f).1 hg
  have h1 : Cod.riseAll 64 63 (vbytes f ++ m, 0) = (some (pl f 64), tls f (pl f 64) ++ m, 0) := by
    unfold vbytes
    rw [if_pos hg, List.append_assoc]
    have := pl_len f 64
    exact Cod.riseAll_back _ _ _ _ (pl_rise f 64).1 (by omega) (by omega) (fun k hk => by have := pl_top f 64 k hk; omega) (by omega)
  obtain ⟨i1, i2⟩ := fill_back f hg2 m (pl f 64) (fun x hx => (mem_pl f 64 x).1 hx) (fun _ => 0)
  have e : rdS (vbytes f ++ m, 0) = fillS (pl f 64) (fun _ => 0) (tls f (pl f 64) ++ m, 0) := by unfold rdS rdL; rw [h1]; rfl
  have e2 : outS (vbytes f ++ m, 0) = (m, 0) := by unfold outS; rw [e]; exact i1
  refine ⟨e2, fun i hi => ?_⟩
  unfold outV
  rw [e2, if_pos rfl, e, i2 i]
  by_cases h : (i : Int) ∈ pl f 64
  · rw [if_pos h]
  · rw [if_neg h]
    by_cases h0 : f i = 0
    · exact h0.symm
    · exact absurd ((mem_pl f 64 i).2 ⟨i, hi, h0, rfl⟩) h
end Go.Proofs.YtapmbankpbiglaaGreatDoor
/- A vector of any bytes: as the program reads it, and as the document does. -/
namespace Go.Proofs.YtapmbankpbiglaaGreatDoor
open Go Go.RowKit
set_option linter.unusedVariables false

theorem RdA.beside {w w' : World} {B A : Nat} {s : Cod.S} (h : RdA w B s) (hg : w.grownBy w' (some A)) (hA : B < A) : RdA w' B s := by
  have hlt := h.lt
  have hB : w'.heap[B]? = w.heap[B]? := hg.block B hlt (fun e => by have e2 : B = A := Option.some.inj e; omega)
  rcases h with ⟨h1, b, o, c, h2, h3, h4, h5⟩ | ⟨h1, h2⟩
  · exact .inl ⟨h1, b, o, c, hB.trans h2, fun i hi => hg.cell (h3 i hi) (fun e => by have e2 : b = A := Option.some.inj e; omega), h4, h5⟩
  · exact .inr ⟨h1, hB.trans h2⟩
theorem RRd.beside {w w' : World} {A lo B : Nat} {s : Cod.S} (h : RRd w A lo s) (hg : w.grownBy w' (some B)) (hB : A < B) : RRd w' A lo s :=
  h.kept (hg.block A h.lt (fun e => by have e2 : A = B := Option.some.inj e; omega)) (fun b _ hb => hg.block b (Nat.lt_trans hb h.lt) (fun e => by have e2 : b = B := Option.some.inj e; omega))
def GotV (w : World) (B : Nat) (f : Nat → Int) (s : Cod.S) (e : Ending) (w' : World) : Prop := e = .returned (.agg (vf f)) ∧ RdA w' B s ∧ w.grownBy w' (some B)
def GotVR (w : World) (A lo : Nat) (f : Nat → Int) (s : Cod.S) (e : Ending) (w' : World) : Prop := e = .returned (.agg (vf f)) ∧ RRd w' A lo s ∧ w.grownBy w' (some A)
theorem vec_post {P : Program} {t e : TypeId} (V : Vec P t e) {fn : Func} {p : Tmp} (h : fn.results = #[.cell p t]) {a : Act} {w : World} {g : Nat} {ty : TypeId} {f : Nat → Int} {Q : Ending → World → Prop} (hp : a.tmps.getD p undef = .pointer (some ⟨g, 0, none⟩)) (hd : a.defers = []) (hr : Row w g ty f)
    (hQ : Q (.returned (.agg (vf f))) w) : bodyPost P fn Q .ret a w :=
  bodyPost_ret (v := .agg (vf f)) (results_cell_row h a.tmps w g ty (vf f) (0, 0) _ hp hr V.array rfl (by rw [vf_size]; exact V.whole)) hd hQ
theorem built0 (w : World) : (Instr.build 25 #[]).run Tryz.prog w = .ok (.agg (vf fun _ => 0)) w := by rw [vf_zero]; kernel_rfl

set_option maxHeartbeats 4000000 in
set_option maxRecDepth 100000 in
theorem vread_is (B : Nat) (s : Cod.S) (w : World) (h : RdA w B s) (hl : s.1.length ≤ 149000000000000) :
    Calls Tryz.prog 31 #[.pointer (some ⟨B, 0, none⟩)] w (GotV w B (outV s) (outS s)) := by
  have hBw := h.lt
  have H := Lib.hid h
  clear h
  obtain ⟨OVv, hOVv⟩ : ∃ x, x = outV s := ⟨_, rfl⟩
  obtain ⟨OSv, hOSv⟩ : ∃ x, x = outS s := ⟨_, rfl⟩
  rw [← hOVv, ← hOSv]
  go_enter Tryz.func31, Tryz.ntmps31
  go_wp2_with (refine wpList_valloc vecI zeroV rfl rfl ?_)
  intro gr w1 lr rr hb1
  have B1 := Lib.hid hb1; have RR1 := Lib.hid rr
  clear hb1 rr
  go_wp2_with (refine wpList_valloc vecI zeroV rfl rfl ?_)
  intro gv w2 lv rv hb2
  have hrv : gr < gv := Nat.lt_of_lt_of_le RR1.out.lt lv
  have B2 := Lib.hid (thenBelow B1.out hb2); have RR2 := Lib.hid (RR1.out.later hb2); have RV2 := Lib.hid rv
  have hlow := Nat.le_trans B1.out.size lv
  have H2 := Lib.hid (H.out.below B2.out)
  have hgv2 := rv.lt
  have hz2 := B2.out.size
  clear hb2 rv H B1 RR1
  have R := Lib.hid (rising_all B 64 63 s w2 H2.out hl (by omega) (by omega))
  have hr1 := rdR_len s
  have AT : Hid (∀ k, k < (rdL s).length → ∃ i : Nat, i < 64 ∧ (rdL s).getD k 0 = (i : Int)) := rdL_at s
  have ST : Hid (∀ k, k < (rdL s).length → fillS ((rdL s).take (k + 1)) (fun _ => 0) (Cod.riseAll 64 63 s).2 = (vset (fillS ((rdL s).take k) (fun _ => 0) (Cod.riseAll 64 63 s).2).1 ((rdL s).getD k 0).toNat (((Cod.numS 1073741823 (fillS ((rdL s).take k) (fun _ => 0) (Cod.riseAll 64 63 s).2).2).1 : Int) + 1), (Cod.numS 1073741823 (fillS ((rdL s).take k) (fun _ => 0) (Cod.riseAll 64 63 s).2).2).2)) := fun k hk => fillS_step _ _ _ k hk
  have OS : Hid (OSv = (fillS ((rdL s).take (rdL s).length) (fun _ => 0) (Cod.riseAll 64 63 s).2).2) := by show OSv = _; rw [hOSv, List.take_length]; rfl
  have OV : Hid (OVv = if OSv.2 = 0 then (fillS ((rdL s).take (rdL s).length) (fun _ => 0) (Cod.riseAll 64 63 s).2).1 else fun _ => 0) := by show OVv = _; rw [hOVv, hOSv, List.take_length]; rfl
  have LN : Hid (∀ k, (fillS ((rdL s).take k) (fun _ => 0) (Cod.riseAll 64 63 s).2).2.1.length ≤ 149000000000000) := fun k => Nat.le_trans (fillS_len _ _ _) (Nat.le_trans hr1 hl)
  have L64 : Hid ((rdL s).length < 9223372036854775807) := by
    show (rdL s).length < _
    have h1 := riseS_lenL 63 (Cod.numS 64 s).1 (-1) [] (Cod.numS 64 s).2
    have h2 := numS_small (s := s) (many := 64) (by omega)
    have h3 : (rdL s).length ≤ [].length + (Cod.numS 64 s).1 := h1
    simp only [List.length_nil] at h3
    omega
  have eL : (Cod.riseAll 64 63 s).1.getD [] = rdL s := rfl
  clear hOVv hOSv
  unfold GotRise at R
  rw [eL] at R
  generalize rdL s = l at R AT ST OS OV LN L64
  generalize (Cod.riseAll 64 63 s).2 = s1 at R ST OS OV LN
  clear hr1 eL hl
  go_wp2_with fail
  refine R.out.mono ?_
  rintro e w3 ⟨v3, rfl, ho3, hr3, hg3⟩
  obtain ⟨hkk, q, d, rfl, _, _, _⟩ := own_liesI ho3
  clear hkk
  have O3 := Lib.hid ho3; have D3 := Lib.hid hr3
  have RR3 := Lib.hid (RR2.out.kept hg3 (fun e => by have e2 : gr = B := Option.some.inj e; omega))
  have RV3 := Lib.hid (RV2.out.kept hg3 (fun e => by have e2 : gv = B := Option.some.inj e; omega))
  have G3 := Lib.hid (grown_trans (grown_of_below B2.out (r := some B)) hg3)
  have hz3 := hg3.size
  clear ho3 hr3 hg3 R RR2 RV2 H2
  have hL := L64.out
  go_wp2
  go_loopw [9] (fun i wr => ∃ k : Nat, k ≤ l.length ∧ i = .int .i64 k ∧ wr.ownsRow w2.heap.size 3 1 (.slice q l.length d) l.length (ints l) ∧ RdA wr B (fillS (l.take k) (fun _ => 0) s1).2 ∧ Row wr gv 25 (fillS (l.take k) (fun _ => 0) s1).1 ∧ Row wr gr 25 (fun _ => 0) ∧ w.grownBy wr (some B)) (fun i _ => l.length - (intOf i).toNat)
  case atStart => exact ⟨0, by omega, rfl, O3.out, D3.out, RV3.out, RR3.out, G3.out⟩
  case round =>
    obtain ⟨k, hk, rfl, ho, hd, hv, hr, hg⟩ := hrel
    have O := Lib.hid ho; have D := Lib.hid hd; have RV := Lib.hid hv; have RR := Lib.hid hr; have GG := Lib.hid hg
    clear ho hd hv hr hg O3 D3 RV3 RR3 G3
    by_cases hlt : k < l.length
    · obtain ⟨i, hi64, hik⟩ := AT.out k hlt
      have hS := ST.out k hlt
      rw [hik, Int.toNat_natCast] at hS
      have hln := LN.out k
      generalize fillS (l.take k) (fun _ => 0) s1 = z at D RV hS hln
      obtain ⟨f, st⟩ := z
      simp only at D RV hS hln
      have NM := Lib.hid (num_all B 1073741823 st _ D.out hln (by omega))
      obtain ⟨hkk, q2, d2, hvv, hld, hli, _⟩ := own_liesI O.out
      simp only [Value.slice.injEq] at hvv
      obtain ⟨hq2, _, hd2⟩ := hvv
      subst hq2 hd2
      obtain ⟨b, o, rfl, _, hcl⟩ := hli.at (by omega)
      have hck := hcl k hlt
      rw [hik] at hck
      have hkI : (k : Int) < l.length := by omega
      have hle : (Cod.numS 1073741823 st).2.2 = 0 → ((Cod.numS 1073741823 st).1 : Int) ≤ 1073741823 := fun e => (Cod.numS_le e).1
      have hze : (Cod.numS 1073741823 st).2.2 ≠ 0 → (Cod.numS 1073741823 st).1 = 0 := fun e => Cod.numS_zero e
      have hnb : ((Cod.numS 1073741823 st).1 : Int) ≤ 1073741823 := by
        by_cases e : (Cod.numS 1073741823 st).2.2 = 0
        · exact hle e
        · rw [hze e]; omega
      generalize Cod.numS 1073741823 st = y at NM hS hnb
      obtain ⟨m, s2⟩ := y
      simp only at NM hS hnb
      have HS := Lib.hid hS
      have hiI : (i : Int) < 64 := by omega
      clear hkk hli hcl hS hle hze hln hik
      go_wp2_with fail
      refine NM.out.mono ?_
      rintro e w5 ⟨rfl, hr5, hg5⟩
      have O5 := Lib.hid (ownI_stays O.out hg5 (by omega))
      have RV5 := Lib.hid (RV.out.kept hg5 (fun e => by have e2 : gv = B := Option.some.inj e; omega))
      have RR5 := Lib.hid (RR.out.kept hg5 (fun e => by have e2 : gr = B := Option.some.inj e; omega))
      have G5 := Lib.hid (grown_trans GG.out hg5)
      have D5 := Lib.hid hr5
      have hz5 := G5.out.size
      clear hr5 hg5 NM O RV RR D GG hck
      have hfr := RV5.out.free i
      have hcc := RV5.out.cell i hi64
      have SG := grown_cell w5 gv i (.int .i64 ((m : Int) + 1))
      have O6 := Lib.hid (ownI_stays O5.out SG (by omega))
      have RV6 := Lib.hid (RV5.out.set i ((m : Int) + 1))
      have RR6 := Lib.hid (RR5.out.kept SG (fun e => by have e2 : gr = gv := Option.some.inj e; omega))
      have D6 := Lib.hid (D5.out.beside SG (by omega))
      have G6 := Lib.hid (grown_carry G5.out (grown_below SG hz5 (by omega)))
      clear SG O5 RR5 D5 RV5 G5
      go_wp2
      go_roundw
      case rel => exact ⟨k + 1, by omega, by go_num, O6.out, by rw [HS.out]; exact D6.out, by rw [HS.out]; exact RV6.out, RR6.out, G6.out⟩
      case measure => simp [intOf]; omega
    · obtain rfl : k = l.length := by omega
      have hkI : ¬ ((l.length : Int) < l.length) := by omega
      rw [← OS.out] at D
      have E := Lib.hid (err_any B OSv wr D.out)
      generalize fillS (l.take l.length) (fun _ => 0) s1 = z at RV OV OS
      obtain ⟨f, st⟩ := z
      simp only at RV OV OS
      by_cases he : OSv.2 = 0
      · have ov := OV.out
        rw [if_pos he] at ov
        subst ov
        rw [he] at E
        go_wp2_with fail
        refine E.out.mono ?_
        rintro e w' ⟨rfl, rfl⟩
        go_wp2_with (first | refine wpList_vload vecI rfl _ rfl gv rfl _ _ RV.out ?_ | refine wpList_vstore vecI rfl _ _ rfl gr rfl _ rfl _ _ RR.out ?_)
        intro w7 r7 g7 _
        have R7 := Lib.hid r7
        have D7 := Lib.hid (D.out.beside g7 (by omega))
        have hz7 := GG.out.size
        have G7 := Lib.hid (grown_carry GG.out (grown_below g7 hz7 (by omega)))
        clear r7 g7
        go_wp2
        exact vec_post vecI rfl rfl rfl R7.out ⟨rfl, D7.out, G7.out⟩
      · have ov := OV.out
        rw [if_neg he] at ov
        subst ov
        have he2 : ¬ ((OSv.2 : Nat) : Int) = 0 := by omega
        generalize ((OSv.2 : Nat) : Int) = ee at E he2
        go_wp2_with fail
        refine E.out.mono ?_
        rintro e w' ⟨rfl, rfl⟩
        go_wp2_with (first | refine wpList_vbuild (by rfl) _ rfl (fun _ => 0) (by simp only [List.map_toArray, List.map_nil]; exact built0 _) ?_ | refine wpList_vstore vecI rfl _ _ rfl gr rfl _ rfl _ _ RR.out ?_)
        intro w7 r7 g7 _
        have R7 := Lib.hid r7
        have D7 := Lib.hid (D.out.beside g7 (by omega))
        have hz7 := GG.out.size
        have G7 := Lib.hid (grown_carry GG.out (grown_below g7 hz7 (by omega)))
        clear r7 g7
        go_wp2
        exact vec_post vecI rfl rfl rfl R7.out ⟨rfl, D7.out, G7.out⟩
set_option maxHeartbeats 4000000 in
set_option maxRecDepth 100000 in
theorem refVread_is (B lo : Nat) (s : Cod.S) (w : World) (h : RRd w B lo s) (hl : s.1.length ≤ 140737488355328) :
    Calls Tryz.prog 18 #[.pointer (some ⟨B, 0, none⟩)] w (GotVR w B lo (outV s) (outS s)) := by
  have hBw := h.lt
  have H := Lib.hid h
  clear h
  obtain ⟨OVv, hOVv⟩ : ∃ x, x = outV s := ⟨_, rfl⟩
  obtain ⟨OSv, hOSv⟩ : ∃ x, x = outS s := ⟨_, rfl⟩
  rw [← hOVv, ← hOSv]
  go_enter Tryz.func18, Tryz.ntmps18
  go_wp2_with (refine wpList_valloc vecI zeroV rfl rfl ?_)
  intro gr w1 lr rr hb1
  have B1 := Lib.hid hb1; have RR1 := Lib.hid rr
  clear hb1 rr
  go_wp2_with (refine wpList_valloc vecI zeroV rfl rfl ?_)
  intro gv w2 lv rv hb2
  have hrv : gr < gv := Nat.lt_of_lt_of_le RR1.out.lt lv
  have B2 := Lib.hid (thenBelow B1.out hb2); have RR2 := Lib.hid (RR1.out.later hb2); have RV2 := Lib.hid rv
  have hlow := Nat.le_trans B1.out.size lv
  have H2 := Lib.hid (H.out.below B2.out)
  have hgv2 := rv.lt
  have hz2 := B2.out.size
  clear hb2 rv H B1 RR1
  have R := Lib.hid (refRising_all B lo 64 63 s w2 H2.out hl (by omega) (by omega))
  have hr1 := rdR_len s
  have AT : Hid (∀ k, k < (rdL s).length → ∃ i : Nat, i < 64 ∧ (rdL s).getD k 0 = (i : Int)) := rdL_at s
  have ST : Hid (∀ k, k < (rdL s).length → fillS ((rdL s).take (k + 1)) (fun _ => 0) (Cod.riseAll 64 63 s).2 = (vset (fillS ((rdL s).take k) (fun _ => 0) (Cod.riseAll 64 63 s).2).1 ((rdL s).getD k 0).toNat (((Cod.numS 1073741823 (fillS ((rdL s).take k) (fun _ => 0) (Cod.riseAll 64 63 s).2).2).1 : Int) + 1), (Cod.numS 1073741823 (fillS ((rdL s).take k) (fun _ => 0) (Cod.riseAll 64 63 s).2).2).2)) := fun k hk => fillS_step _ _ _ k hk
  have OS : Hid (OSv = (fillS ((rdL s).take (rdL s).length) (fun _ => 0) (Cod.riseAll 64 63 s).2).2) := by show OSv = _; rw [hOSv, List.take_length]; rfl
  have OV : Hid (OVv = if OSv.2 = 0 then (fillS ((rdL s).take (rdL s).length) (fun _ => 0) (Cod.riseAll 64 63 s).2).1 else fun _ => 0) := by show OVv = _; rw [hOVv, hOSv, List.take_length]; rfl
  have LN : Hid (∀ k, (fillS ((rdL s).take k) (fun _ => 0) (Cod.riseAll 64 63 s).2).2.1.length ≤ 140737488355328) := fun k => Nat.le_trans (fillS_len _ _ _) (Nat.le_trans hr1 hl)
  have L64 : Hid ((rdL s).length < 9223372036854775807) := by
    show (rdL s).length < _
    have h1 := riseS_lenL 63 (Cod.numS 64 s).1 (-1) [] (Cod.numS 64 s).2
    have h2 := numS_small (s := s) (many := 64) (by omega)
    have h3 : (rdL s).length ≤ [].length + (Cod.numS 64 s).1 := h1
    simp only [List.length_nil] at h3
    omega
  have eL : (Cod.riseAll 64 63 s).1.getD [] = rdL s := rfl
  clear hOVv hOSv
  unfold GotRiseR at R
  rw [eL] at R
  generalize rdL s = l at R AT ST OS OV LN L64
  generalize (Cod.riseAll 64 63 s).2 = s1 at R ST OS OV LN
  clear hr1 eL hl
  go_wp2_with fail
  refine R.out.mono ?_
  rintro e w3 ⟨v3, rfl, ho3, hr3, hg3⟩
  obtain ⟨hkk, q, d, rfl, _, _, _⟩ := own_liesI ho3
  clear hkk
  have O3 := Lib.hid ho3; have D3 := Lib.hid hr3
  have RR3 := Lib.hid (RR2.out.kept hg3 (fun e => by have e2 : gr = B := Option.some.inj e; omega))
  have RV3 := Lib.hid (RV2.out.kept hg3 (fun e => by have e2 : gv = B := Option.some.inj e; omega))
  have G3 := Lib.hid (grown_trans (grown_of_below B2.out (r := some B)) hg3)
  have hz3 := hg3.size
  clear ho3 hr3 hg3 R RR2 RV2 H2
  have hL := L64.out
  go_wp2
  go_loopw [9] (fun i wr => ∃ k : Nat, k ≤ l.length ∧ i = .int .i64 k ∧ wr.ownsRow w2.heap.size 3 1 (.slice q l.length d) l.length (ints l) ∧ RRd wr B lo (fillS (l.take k) (fun _ => 0) s1).2 ∧ Row wr gv 25 (fillS (l.take k) (fun _ => 0) s1).1 ∧ Row wr gr 25 (fun _ => 0) ∧ w.grownBy wr (some B)) (fun i _ => l.length - (intOf i).toNat)
  case atStart => exact ⟨0, by omega, rfl, O3.out, D3.out, RV3.out, RR3.out, G3.out⟩
  case round =>
    obtain ⟨k, hk, rfl, ho, hd, hv, hr, hg⟩ := hrel
    have O := Lib.hid ho; have D := Lib.hid hd; have RV := Lib.hid hv; have RR := Lib.hid hr; have GG := Lib.hid hg
    clear ho hd hv hr hg O3 D3 RV3 RR3 G3
    by_cases hlt : k < l.length
    · obtain ⟨i, hi64, hik⟩ := AT.out k hlt
      have hS := ST.out k hlt
      rw [hik, Int.toNat_natCast] at hS
      have hln := LN.out k
      generalize fillS (l.take k) (fun _ => 0) s1 = z at D RV hS hln
      obtain ⟨f, st⟩ := z
      simp only at D RV hS hln
      have NM := Lib.hid (refNum_all B lo 1073741823 st _ D.out hln (by omega))
      obtain ⟨hkk, q2, d2, hvv, hld, hli, _⟩ := own_liesI O.out
      simp only [Value.slice.injEq] at hvv
      obtain ⟨hq2, _, hd2⟩ := hvv
      subst hq2 hd2
      obtain ⟨b, o, rfl, _, hcl⟩ := hli.at (by omega)
      have hck := hcl k hlt
      rw [hik] at hck
      have hkI : (k : Int) < l.length := by omega
      have hle : (Cod.numS 1073741823 st).2.2 = 0 → ((Cod.numS 1073741823 st).1 : Int) ≤ 1073741823 := fun e => (Cod.numS_le e).1
      have hze : (Cod.numS 1073741823 st).2.2 ≠ 0 → (Cod.numS 1073741823 st).1 = 0 := fun e => Cod.numS_zero e
      have hnb : ((Cod.numS 1073741823 st).1 : Int) ≤ 1073741823 := by
        by_cases e : (Cod.numS 1073741823 st).2.2 = 0
        · exact hle e
        · rw [hze e]; omega
      generalize Cod.numS 1073741823 st = y at NM hS hnb
      obtain ⟨m, s2⟩ := y
      simp only at NM hS hnb
      have HS := Lib.hid hS
      have hiI : (i : Int) < 64 := by omega
      clear hkk hli hcl hS hle hze hln hik
      go_wp2_with fail
      refine NM.out.mono ?_
      rintro e w5 ⟨rfl, hr5, hg5⟩
      have O5 := Lib.hid (ownI_stays O.out hg5 (by omega))
      have RV5 := Lib.hid (RV.out.kept hg5 (fun e => by have e2 : gv = B := Option.some.inj e; omega))
      have RR5 := Lib.hid (RR.out.kept hg5 (fun e => by have e2 : gr = B := Option.some.inj e; omega))
      have G5 := Lib.hid (grown_trans GG.out hg5)
      have D5 := Lib.hid hr5
      have hz5 := G5.out.size
      clear hr5 hg5 NM O RV RR D GG hck
      have hfr := RV5.out.free i
      have hcc := RV5.out.cell i hi64
      have SG := grown_cell w5 gv i (.int .i64 ((m : Int) + 1))
      have O6 := Lib.hid (ownI_stays O5.out SG (by omega))
      have RV6 := Lib.hid (RV5.out.set i ((m : Int) + 1))
      have RR6 := Lib.hid (RR5.out.kept SG (fun e => by have e2 : gr = gv := Option.some.inj e; omega))
      have D6 := Lib.hid (D5.out.beside SG (by omega))
      have G6 := Lib.hid (grown_carry G5.out (grown_below SG hz5 (by omega)))
      clear SG O5 RR5 D5 RV5 G5
      have e1 : (1 : Int) + (m : Int) = (m : Int) + 1 := by omega
      go_wp2
      go_roundw
      case rel => exact ⟨k + 1, by omega, by go_num, O6.out, by rw [HS.out]; exact D6.out, by rw [HS.out]; exact RV6.out, RR6.out, G6.out⟩
      case measure => simp [intOf]; omega
    · obtain rfl : k = l.length := by omega
      have hkI : ¬ ((l.length : Int) < l.length) := by omega
      rw [← OS.out] at D
      have E := D.out.err
      generalize fillS (l.take l.length) (fun _ => 0) s1 = z at RV OV OS
      obtain ⟨f, st⟩ := z
      simp only at RV OV OS
      by_cases he : OSv.2 = 0
      · have ov := OV.out
        rw [if_pos he] at ov
        subst ov
        rw [he] at E
        go_wp2_with (first | refine wpList_vload vecI rfl _ rfl gv rfl _ _ RV.out ?_ | refine wpList_vstore vecI rfl _ _ rfl gr rfl _ rfl _ _ RR.out ?_)
        intro w7 r7 g7 _
        have R7 := Lib.hid r7
        have D7 := Lib.hid (D.out.beside g7 (by omega))
        have hz7 := GG.out.size
        have G7 := Lib.hid (grown_carry GG.out (grown_below g7 hz7 (by omega)))
        clear r7 g7
        go_wp2
        exact vec_post vecI rfl rfl rfl R7.out ⟨rfl, D7.out, G7.out⟩
      · have ov := OV.out
        rw [if_neg he] at ov
        subst ov
        have he2 : ¬ ((OSv.2 : Nat) : Int) = 0 := by omega
        generalize ((OSv.2 : Nat) : Int) = ee at E he2
        go_wp2_with (first | refine wpList_vbuild (by rfl) _ rfl (fun _ => 0) (by simp only [List.map_toArray, List.map_nil]; exact built0 _) ?_ | refine wpList_vstore vecI rfl _ _ rfl gr rfl _ rfl _ _ RR.out ?_)
        intro w7 r7 g7 _
        have R7 := Lib.hid r7
        have D7 := Lib.hid (D.out.beside g7 (by omega))
        have hz7 := GG.out.size
        have G7 := Lib.hid (grown_carry GG.out (grown_below g7 hz7 (by omega)))
        clear r7 g7
        go_wp2
        exact vec_post vecI rfl rfl rfl R7.out ⟨rfl, D7.out, G7.out⟩
end Go.Proofs.YtapmbankpbiglaaGreatDoor
