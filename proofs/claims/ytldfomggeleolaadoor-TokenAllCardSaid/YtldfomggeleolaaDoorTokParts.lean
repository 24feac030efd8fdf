/- Words of a text in two parts: plain. -/
import Derived.Test.YtldfomggeleolaaDoorTokRef2
namespace Go.Proofs.YtldfomggeleolaaDoor
open Go Go.RowKit
set_option linter.unusedVariables false

namespace Tok
open Utf
theorem gt_app (a c : ByteArray) (i : Nat) : gt (a ++ c) i = if i < a.size then gt a i else gt c (i - a.size) := by
  unfold gt
  have e : (a ++ c).data.toList = a.data.toList ++ c.data.toList := by rw [ByteArray.data_append, Array.toList_append]
  have hl : a.data.toList.length = a.size := Array.length_toList
  rw [e]
  simp only [List.getD]
  split
  · rename_i h
    rw [List.getElem?_append_left (by omega)]
  · rename_i h
    rw [List.getElem?_append_right (by omega), hl]
theorem size_app (a c : ByteArray) : (a ++ c).size = a.size + c.size := ByteArray.size_append
theorem acc_same {S T : ByteArray} {p q : Nat} (h0 : gt S p = gt T q) : ∀ j, (∀ i, i < j → gt S (p + 1 + i) = gt T (q + 1 + i)) → acc S p j = acc T q j := by
  intro j
  induction j with
  | zero => intro _; simp only [acc, h0]
  | succ j ih =>
    intro h
    simp only [acc]
    rw [ih (fun i hi => h i (by omega)), h j (by omega)]
/-- a sign is that of the same bytes -/
theorem nx_same {S T : ByteArray} {p q : Nat} (h0 : gt S p = gt T q) (hi : ∀ i, i < led (gt S p) → gt S (p + 1 + i) = gt T (q + 1 + i)) (hs : p + led (gt S p) + 1 ≤ S.size ↔ q + led (gt S p) + 1 ≤ T.size) : nx S p = nx T q := by
  have ha := acc_same h0 (led (gt S p)) hi
  have hk : ok S p ↔ ok T q := by
    unfold ok
    rw [← h0, ← ha, hs]
    refine and_congr_right fun _ => and_congr_left fun _ => ?_
    refine forall_congr' fun j => ?_
    constructor
    · intro h hj; have := h hj; unfold cont at this ⊢; rw [← hi j hj]; exact this
    · intro h hj; have := h hj; unfold cont at this ⊢; rw [hi j hj]; exact this
  by_cases h : ok S p
  · rw [nx_yes h, nx_yes (hk.1 h), ← h0, ha]
  · rw [nx_no h, nx_no (fun h2 => h (hk.2 h2))]
/-- behind a text comes something that goes on nowhere -/
theorem nx_pre {a c : ByteArray} {p : Nat} (hp : p < a.size) (hc : 0 < c.size) (hg : ¬ (128 ≤ gt c 0 ∧ gt c 0 < 192)) : nx (a ++ c) p = nx a p := by
  have h0 : gt (a ++ c) p = gt a p := by rw [gt_app, if_pos hp]
  by_cases hf : p + led (gt a p) + 1 ≤ a.size
  · refine nx_same h0 (fun i hi => ?_) ?_
    · rw [h0] at hi; rw [gt_app, if_pos (by omega)]
    · rw [h0, size_app]; constructor <;> intro <;> omega
  · rw [nx_no (s := a) (fun h => hf h.1), nx_no]
    intro h
    have h1 := h.2.1 (a.size - p - 1) (by rw [h0]; omega)
    unfold cont at h1
    rw [show p + 1 + (a.size - p - 1) = a.size from by omega, gt_app, if_neg (by omega), Nat.sub_self] at h1
    exact hg h1
/-- S is T behind o bytes -/
def Shift (S T : ByteArray) (o : Nat) : Prop := S.size = o + T.size ∧ ∀ q, q < T.size → nx S (o + q) = nx T q
theorem shift_app (a c : ByteArray) : Shift (a ++ c) c a.size := by
  refine ⟨size_app a c, fun q hq => ?_⟩
  have hg : ∀ i, gt (a ++ c) (a.size + i) = gt c i := fun i => by rw [gt_app, if_neg (by omega)]; congr 1; omega
  refine nx_same (hg q) (fun i hi => ?_) ?_
  · rw [show a.size + q + 1 + i = a.size + (q + 1 + i) from by omega, hg]
  · rw [size_app]; constructor <;> intro <;> omega
theorem Shift.wd {S T : ByteArray} {o : Nat} (h : Shift S T o) (q : Nat) (hq : q < T.size) : wd S (o + q) = wd T q := by unfold Tok.wd; rw [h.2 q hq]
theorem Shift.sk {S T : ByteArray} {o : Nat} (h : Shift S T o) (b : Bool) : ∀ m q, T.size ≤ q + m → q ≤ T.size → sk S b (o + q) = o + sk T b q := by
  intro m
  induction m with
  | zero => intro q h1 h2; rw [sk_end (by rw [h.1]; omega), sk_end (by omega)]
  | succ m ih =>
    intro q h1 h2
    by_cases hq : q < T.size
    · have hst := nx_step T q hq
      by_cases hb : Tok.wd T q = b
      · rw [sk_go (by rw [h.1]; omega) (by rw [h.wd q hq]; exact hb), sk_go hq hb, h.2 q hq, Nat.add_assoc]
        exact ih _ (by omega) (by omega)
      · rw [sk_no (by rw [h.wd q hq]; exact hb), sk_no hb]
    · rw [sk_end (by rw [h.1]; omega), sk_end (by omega)]
theorem Shift.count {S T : ByteArray} {o : Nat} (h : Shift S T o) : ∀ m f g q, T.size ≤ q + m → q ≤ T.size → T.size ≤ q + f → T.size ≤ q + g → (spF S f (o + q)).length = (spF T g q).length := by
  intro m
  induction m with
  | zero =>
    intro f g q h1 h2 h3 h4
    have e1 := h.sk false 0 q h1 h2
    have e2 := sk_end (s := T) (b := false) (p := q) (by omega)
    rw [sp_end S f _ (by rw [h.1]; omega) (by rw [e1, e2, h.1]; omega), sp_end T g q h2 (by rw [e2]; omega)]
  | succ m ih =>
    intro f g q h1 h2 h3 h4
    have e1 := h.sk false (m + 1) q h1 h2
    have l1 := sk_le (s := T) (b := false) h2
    have e2 := h.sk true (T.size) (Tok.sk T false q) (by omega) l1.2
    by_cases hlt : Tok.sk T false q < T.size
    · have l2 := sk_le (s := T) (b := true) l1.2
      have l3 := (sp_lt h2).2 hlt
      rw [sp_step S f _ (by rw [h.1]; omega) (by rw [e1, h.1]; omega) (by rw [h.1]; omega), sp_step T g q h2 hlt h4, List.length_cons, List.length_cons, e1, e2, ih (f - 1) (g - 1) _ (by omega) l2.2 (by omega) (by omega)]
    · rw [sp_end S f _ (by rw [h.1]; omega) (by rw [e1, h.1]; omega), sp_end T g q h2 hlt]
section
variable {a c : ByteArray} (hc : 0 < c.size) (hg : ¬ (128 ≤ gt c 0 ∧ gt c 0 < 192)) (hw : wd (a ++ c) a.size = false)
include hc hg
theorem pre_wd {p : Nat} (hp : p < a.size) : wd (a ++ c) p = wd a p := by unfold Tok.wd; rw [nx_pre hp hc hg]
theorem pre_sk (b : Bool) : ∀ m p, a.size ≤ p + m → p ≤ a.size → sk a b p < a.size → sk (a ++ c) b p = sk a b p := by
  intro m
  induction m with
  | zero => intro p h1 h2 h3; rw [sk_end (by omega)] at h3; omega
  | succ m ih =>
    intro p h1 h2 h3
    by_cases hp : p < a.size
    · have hst := nx_step a p hp
      by_cases hb : Tok.wd a p = b
      · rw [sk_go hp hb] at h3
        rw [sk_go (by rw [size_app]; omega) (by rw [pre_wd hc hg hp]; exact hb), sk_go hp hb, nx_pre hp hc hg]
        exact ih _ (by omega) (by omega) h3
      · rw [sk_no hb, sk_no (by rw [pre_wd hc hg hp]; exact hb)]
    · rw [sk_end (by omega)] at h3; omega
theorem pre_sk_out (b : Bool) : ∀ m p, a.size ≤ p + m → p ≤ a.size → ¬ sk a b p < a.size → sk (a ++ c) b p = sk (a ++ c) b a.size := by
  intro m
  induction m with
  | zero => intro p h1 h2 h3; rw [show p = a.size from by omega]
  | succ m ih =>
    intro p h1 h2 h3
    by_cases hp : p < a.size
    · have hst := nx_step a p hp
      by_cases hb : Tok.wd a p = b
      · rw [sk_go hp hb] at h3
        rw [sk_go (by rw [size_app]; omega) (by rw [pre_wd hc hg hp]; exact hb), nx_pre hp hc hg]
        exact ih _ (by omega) (by omega) h3
      · rw [sk_no hb] at h3; omega
    · rw [show p = a.size from by omega]
include hw
theorem pre_count : ∀ m f g p, a.size ≤ p + m → p ≤ a.size → (a ++ c).size ≤ p + f → a.size ≤ p + g → (spF (a ++ c) f p).length = (spF a g p).length + (spF (a ++ c) (a ++ c).size a.size).length := by
  intro m
  induction m with
  | zero =>
    intro f g p h1 h2 h3 h4
    obtain rfl : p = a.size := by omega
    have e := sk_end (s := a) (b := false) (p := a.size) (Nat.le_refl _)
    rw [sp_end a g _ (Nat.le_refl _) (by rw [e]; omega), List.length_nil, Nat.zero_add]
    have := (shift_app a c).count c.size f (a ++ c).size 0
    have h5 := (shift_app a c).count c.size f c.size 0 (by omega) (by omega) (by rw [size_app] at h3; omega) (by omega)
    have h6 := (shift_app a c).count c.size (a ++ c).size c.size 0 (by omega) (by omega) (by rw [size_app]; omega) (by omega)
    rw [Nat.add_zero] at h5 h6
    rw [h5, h6]
  | succ m ih =>
    intro f g p h1 h2 h3 h4
    have hz := size_app a c
    have l1 := sk_le (s := a) (b := false) h2
    by_cases hlt : sk a false p < a.size
    · have e1 := pre_sk hc hg false (m + 1) p h1 h2 hlt
      have l2 := sk_le (s := a) (b := true) l1.2
      have l3 := (sp_lt h2).2 hlt
      have e2 : sk (a ++ c) true (sk a false p) = sk a true (sk a false p) := by
        by_cases h5 : sk a true (sk a false p) < a.size
        · exact pre_sk hc hg true a.size _ (by omega) l1.2 h5
        · rw [pre_sk_out hc hg true a.size _ (by omega) l1.2 h5, sk_no (by rw [hw]; decide)]
          omega
      rw [sp_step (a ++ c) f p (by omega) (by rw [e1]; omega) h3, sp_step a g p h2 hlt h4, List.length_cons, List.length_cons, e1, e2, ih (f - 1) (g - 1) _ (by omega) l2.2 (by omega) (by omega)]
      omega
    · have e1 := pre_sk_out hc hg false (m + 1) p h1 h2 hlt
      rw [sp_end a g p h2 hlt, List.length_nil, Nat.zero_add, ← sp_skip (a ++ c) f p (by omega), e1, sp_skip (a ++ c) f a.size (by omega)]
      have h5 := (shift_app a c).count c.size f c.size 0 (by omega) (by omega) (by omega) (by omega)
      have h6 := (shift_app a c).count c.size (a ++ c).size c.size 0 (by omega) (by omega) (by omega) (by omega)
      rw [Nat.add_zero] at h5 h6
      rw [h5, h6]
end
/-- what a blank keeps apart -/
theorem parts_count (a b : ByteArray) : (spans ((a ++ ⟨#[32]⟩) ++ b)).length = (spans a).length + (spans b).length := by
  have e : (a ++ ⟨#[32]⟩) ++ b = a ++ (⟨#[32]⟩ ++ b) := ByteArray.append_assoc
  rw [e]
  have hc : 0 < ((⟨#[32]⟩ : ByteArray) ++ b).size := by rw [size_app]; show 0 < 1 + b.size; omega
  have g0 : gt ((⟨#[32]⟩ : ByteArray) ++ b) 0 = 32 := by rw [gt_app]; rfl
  have n0 : nx ((⟨#[32]⟩ : ByteArray) ++ b) 0 = (32, 1) := by
    have h1 : nx (⟨#[32]⟩ : ByteArray) 0 = (32, 1) := by decide +kernel
    rw [← h1]
    exact nx_same (by rw [g0]; rfl) (fun i hi => by rw [g0] at hi; simp [led] at hi) (by rw [g0, size_app]; simp [led]; show 1 ≤ 1 + b.size ↔ 1 ≤ 1; omega)
  have w0 : wd ((⟨#[32]⟩ : ByteArray) ++ b) 0 = false := by unfold Tok.wd; rw [n0]; decide
  have hw : wd (a ++ (⟨#[32]⟩ ++ b)) a.size = false := by
    have := (shift_app a (⟨#[32]⟩ ++ b)).wd 0 hc
    rw [Nat.add_zero] at this
    rw [this, w0]
  have h1 := pre_count hc (by rw [g0]; omega) hw a.size (a ++ (⟨#[32]⟩ ++ b)).size a.size 0 (by omega) (Nat.zero_le _) (by omega) (by omega)
  have hz0 := size_app a (⟨#[32]⟩ ++ b)
  have h2 := (shift_app a (⟨#[32]⟩ ++ b)).count ((⟨#[32]⟩ : ByteArray) ++ b).size (a ++ (⟨#[32]⟩ ++ b)).size ((⟨#[32]⟩ : ByteArray) ++ b).size 0 (by omega) (Nat.zero_le _) (by omega) (by omega)
  have hz1 : ((⟨#[32]⟩ : ByteArray) ++ b).size = 1 + b.size := size_app _ _
  have e3 : spF ((⟨#[32]⟩ : ByteArray) ++ b) ((⟨#[32]⟩ : ByteArray) ++ b).size 0 = spF ((⟨#[32]⟩ : ByteArray) ++ b) ((⟨#[32]⟩ : ByteArray) ++ b).size 1 := by
    have k1 := sk_go (s := (⟨#[32]⟩ : ByteArray) ++ b) (b := false) (p := 0) hc w0
    rw [n0] at k1
    rw [← sp_skip _ _ 0 (Nat.zero_le _), k1]
    exact sp_skip _ _ 1 (by omega)
  have h3 := (shift_app (⟨#[32]⟩ : ByteArray) b).count b.size ((⟨#[32]⟩ : ByteArray) ++ b).size b.size 0 (by omega) (Nat.zero_le _) (by omega) (by omega)
  unfold spans
  rw [Nat.add_zero] at h2
  rw [h1, h2, e3]
  rw [show (⟨#[32]⟩ : ByteArray).size + 0 = 1 from rfl] at h3
  rw [h3]
/-- a word with a letter ahead is one word -/
theorem single_ahead (a : ByteArray) (h : single a = true) : (spans ((⟨#[120]⟩ : ByteArray) ++ a)).length = 1 := by
  have h1 := of_decide_eq_true h
  obtain ⟨h2, h3, h4⟩ := h1
  have hsh := shift_app (⟨#[120]⟩ : ByteArray) a
  have hz : ((⟨#[120]⟩ : ByteArray) ++ a).size = 1 + a.size := size_app _ _
  have g0 : gt ((⟨#[120]⟩ : ByteArray) ++ a) 0 = 120 := by rw [gt_app]; rfl
  have n0 : nx ((⟨#[120]⟩ : ByteArray) ++ a) 0 = (120, 1) := by
    have h1 : nx (⟨#[120]⟩ : ByteArray) 0 = (120, 1) := by decide +kernel
    rw [← h1]
    exact nx_same (by rw [g0]; rfl) (fun i hi => by rw [g0] at hi; simp [led] at hi) (by rw [g0, size_app]; simp [led]; show 1 ≤ 1 + a.size ↔ 1 ≤ 1; omega)
  have w0 : wd ((⟨#[120]⟩ : ByteArray) ++ a) 0 = true := by unfold Tok.wd; rw [n0]; decide
  have k0 : sk ((⟨#[120]⟩ : ByteArray) ++ a) false 0 = 0 := sk_no (by rw [w0]; decide)
  have k1 : sk ((⟨#[120]⟩ : ByteArray) ++ a) true 0 = ((⟨#[120]⟩ : ByteArray) ++ a).size := by
    rw [sk_go (by omega) w0, n0]
    have := hsh.sk true a.size 0 (by omega) (Nat.zero_le _)
    rw [show (⟨#[120]⟩ : ByteArray).size + 0 = 0 + 1 from rfl] at this
    rw [this, h4, hz]
    rfl
  unfold spans
  rw [sp_step _ _ 0 (Nat.zero_le _) (by rw [k0]; omega) (by omega), k0, k1, sp_end _ _ _ (Nat.le_refl _) (by rw [sk_end (Nat.le_refl _)]; omega)]
  rfl
end Tok
end Go.Proofs.YtldfomggeleolaaDoor
