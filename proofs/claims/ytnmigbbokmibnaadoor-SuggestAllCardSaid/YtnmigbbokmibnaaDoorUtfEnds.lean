/- Where steps end: the document's Ends, Valid, Count, Cut, and utf's Count and Cut, exactly. -/
import Derived.Test.YtnmigbbokmibnaaDoorUtfRefNext2
import Derived.Test.YtnmigbbokmibnaaDoorMemIntsOwn
namespace Go.Proofs.YtnmigbbokmibnaaDoor
open Go Go.RowKit

namespace Utf
/-- the ends of the steps from p on -/
def ends (s : ByteArray) : Nat → Nat → List Nat
  | 0, _ => []
  | f + 1, p => if p < s.size then (p + (nx s p).2) :: ends s f (p + (nx s p).2) else []
theorem ends_end (s : ByteArray) (f p : Nat) (h : s.size ≤ p) : ends s f p = [] := by
  cases f with
  | zero => rfl
  | succ f => rw [ends, if_neg (by omega)]
theorem ends_step (s : ByteArray) (f p : Nat) (h : p < s.size) (hf : s.size ≤ p + f) : ends s f p = (p + (nx s p).2) :: ends s (f - 1) (p + (nx s p).2) := by
  cases f with
  | zero => omega
  | succ f => rw [ends, if_pos h]; rfl
theorem ends_len (s : ByteArray) : ∀ f p, p ≤ s.size → (ends s f p).length + p ≤ s.size := by
  intro f
  induction f with
  | zero => intro p h; simp [ends, h]
  | succ f ih =>
    intro p h
    rw [ends]
    split
    · rename_i hp
      have := nx_step s p hp
      have := ih (p + (nx s p).2) (by omega)
      simp only [List.length_cons]; omega
    · simp; omega
theorem ends_fuel (s : ByteArray) : ∀ f g p, s.size ≤ p + f → s.size ≤ p + g → ends s f p = ends s g p := by
  intro f
  induction f with
  | zero => intro g p h _; rw [ends_end s _ p (by omega), ends_end s _ p (by omega)]
  | succ f ih =>
    intro g p h1 h2
    by_cases hp : p < s.size
    · have := nx_step s p hp
      rw [ends_step s (f + 1) p hp h1, ends_step s g p hp h2, Nat.add_sub_cancel, ih (g - 1) _ (by omega) (by omega)]
    · rw [ends_end s _ p (by omega), ends_end s _ p (by omega)]
/-- where the longest beginning of at most n ends -/
def cutF (s : ByteArray) (n : Int) : Nat → Nat → Nat
  | 0, p => p
  | f + 1, p => if p < s.size then (if ((p + (nx s p).2 : Nat) : Int) ≤ n then cutF s n f (p + (nx s p).2) else p) else p
theorem cutF_end (s : ByteArray) (n : Int) (f p : Nat) (h : s.size ≤ p) : cutF s n f p = p := by
  cases f with
  | zero => rfl
  | succ f => rw [cutF, if_neg (by omega)]
theorem cutF_no (s : ByteArray) (n : Int) (f p : Nat) (h : ¬ ((p + (nx s p).2 : Nat) : Int) ≤ n) : cutF s n f p = p := by
  cases f with
  | zero => rfl
  | succ f => rw [cutF, if_neg h]; split <;> rfl
theorem cutF_step (s : ByteArray) (n : Int) (f p : Nat) (h : p < s.size) (hf : s.size ≤ p + f) (hn : ((p + (nx s p).2 : Nat) : Int) ≤ n) : cutF s n f p = cutF s n (f - 1) (p + (nx s p).2) := by
  cases f with
  | zero => omega
  | succ f => rw [cutF, if_pos h, if_pos hn]; rfl
theorem cutF_le (s : ByteArray) (n : Int) : ∀ f p, p ≤ s.size → cutF s n f p ≤ s.size := by
  intro f
  induction f with
  | zero => intro p h; exact h
  | succ f ih =>
    intro p h
    rw [cutF]
    split
    · rename_i hp
      have := nx_step s p hp
      split
      · exact ih _ (by omega)
      · exact h
    · exact h
/-- what the document's Cut has behind some ends -/
def lastIn (n : Int) (at_ : Nat) (l : List Nat) : Nat := l.foldl (fun (a : Nat) (e : Nat) => if (e : Int) ≤ n then e else a) at_
theorem lastIn_big (n : Int) (at_ : Nat) (l : List Nat) (h : ∀ e ∈ l, ¬ (e : Int) ≤ n) : lastIn n at_ l = at_ := by
  induction l with
  | nil => rfl
  | cons e l ih =>
    unfold lastIn at ih ⊢
    rw [List.foldl_cons, if_neg (h e (by simp))]
    exact ih fun x hx => h x (by simp [hx])
theorem ends_above (s : ByteArray) : ∀ f p, ∀ e ∈ ends s f p, p < e := by
  intro f
  induction f with
  | zero => intro p e h; simp [ends] at h
  | succ f ih =>
    intro p e h
    rw [ends] at h
    split at h
    · rename_i hp
      have := nx_step s p hp
      rcases List.mem_cons.1 h with rfl | h
      · omega
      · have := ih _ e h; omega
    · simp at h
theorem lastIn_ends (s : ByteArray) (n : Int) : ∀ f p, s.size ≤ p + f → lastIn n p (ends s f p) = cutF s n f p := by
  intro f
  induction f with
  | zero => intro p _; rfl
  | succ f ih =>
    intro p hf
    by_cases hp : p < s.size
    · have hst := nx_step s p hp
      rw [ends_step s _ p hp hf, Nat.add_sub_cancel]
      by_cases hn : ((p + (nx s p).2 : Nat) : Int) ≤ n
      · rw [cutF_step s n _ p hp hf hn, Nat.add_sub_cancel, ← ih _ (by omega)]
        unfold lastIn
        rw [List.foldl_cons, if_pos hn]
      · rw [cutF_no s n _ p hn]
        refine lastIn_big n p _ fun e he => ?_
        rcases List.mem_cons.1 he with rfl | he
        · exact hn
        · have := ends_above s _ _ e he; omega
    · rw [ends_end s _ p (by omega), cutF_end s n _ p (by omega)]; rfl
end Utf

def casts (l : List Nat) : List Int := l.map fun (n : Nat) => (n : Int)
theorem casts_len (l : List Nat) : (casts l).length = l.length := by simp [casts]
theorem casts_get (l : List Nat) (i : Nat) (h : i < l.length) : (casts l).getD i 0 = ((l.getD i 0 : Nat) : Int) := by
  simp [casts, List.getD, List.getElem?_eq_getElem h]

/-- the relation of the document's walk through a text: the next step begins at p = i + skip -/
structure Walks (s : ByteArray) (i skip p f : Nat) (done all : List Nat) : Prop where
  at_ : p = i + skip
  le : p ≤ s.size
  fuel : s.size ≤ p + f
  all : done ++ Utf.ends s f p = all

set_option maxHeartbeats 2000000 in
set_option maxRecDepth 100000 in
theorem refEnds_is (s : ByteArray) (w : World) (hs : s.size ≤ 100000) : Calls Tryd.prog 44 #[.string s] w (RetInts w 3 (casts (Utf.ends s s.size 0))) := by
  obtain ⟨all, hall⟩ : ∃ all, all = Utf.ends s s.size 0 := ⟨_, rfl⟩
  have hlen : all.length ≤ s.size := by rw [hall]; have := Utf.ends_len s s.size 0 (Nat.zero_le _); omega
  have W0 : Hid (Walks s 0 0 0 s.size [] all) := ⟨rfl, Nat.zero_le _, by omega, by rw [hall]; rfl⟩
  rw [← hall]
  clear hall
  go_enter Tryd.func44, Tryd.ntmps44
  go_wp2
  go_loopw [3, 4, 10] (fun v k i wr => ∃ (i' k' p f : Nat) (done : List Nat), i = .int .i64 i' ∧ k = .int .i64 k' ∧ i' ≤ s.size ∧ Walks s i' k' p f done all ∧ wr.ownsRow w.heap.size 3 1 v done.length (ints (casts done)) ∧ Below w.heap.size w wr) (fun _ _ i _ => s.size - (intOf i).toNat)
  case atStart => exact ⟨0, 0, 0, s.size, [], rfl, rfl, Nat.zero_le _, W0.out, World.ownsRow_nil _ _ _ _, Below.refl _ _⟩
  case round =>
    obtain ⟨i, k, p, f, done, rfl, rfl, hi, hw, hown, hb⟩ := hrel
    have hpk := hw.at_; have hple := hw.le
    have HW := Lib.hid hw; have O := Lib.hid hown; have B := Lib.hid hb
    have hz := hb.size
    have hdl : done.length ≤ s.size := by
      have := congrArg List.length hw.all
      rw [List.length_append] at this; omega
    clear hw hown hb
    by_cases hlt : i < s.size
    · have hlt' : (i : Int) < s.size := by omega
      by_cases hk : 0 < k
      · have hk' : (k : Int) > 0 := by omega
        go_wp2
        go_roundw
        case rel => exact ⟨i + 1, k - 1, p, f, done, by go_num, by rw [Int.ofNat_sub (by omega)]; rfl, by omega, ⟨by have := HW.out.at_; omega, HW.out.le, HW.out.fuel, HW.out.all⟩, O.out, B.out⟩
        case measure => simp [intOf]; omega
      · have hk0 : k = 0 := by omega
        have hpi : p = i := by omega
        subst hk0; subst hpi
        clear hpk hk
        have hst := Utf.nx_step s p hlt
        have HA : Hid (done ++ ((p + (Utf.nx s p).2) :: Utf.ends s (f - 1) (p + (Utf.nx s p).2)) = all) := by rw [← Utf.ends_step s f p hlt HW.out.fuel]; exact HW.out.all
        have NX := Lib.hid (refNext_in s p wr hlt (by omega))
        generalize Utf.nx s p = xm at hst HA NX
        obtain ⟨x, m⟩ := xm
        simp only at hst HA
        obtain ⟨m1, m2, m3⟩ := hst
        go_wp2_with fail
        refine NX.out.mono ?_
        rintro e w1 ⟨rfl, hb1⟩
        have O1 := Lib.hid (ownI_later O.out hb1); have B1 := Lib.hid (B.out.trans (hb1.mono hz))
        have hz1 := hb1.size
        clear NX hb1
        go_wp2_with (at_builtin; refine wpList_int isI64 _ rfl _ _ rfl w.heap.size done.length (casts done) _ rfl O1.out _ rfl (by omega) (by omega) ?_)
        intro v2 w2 hown2 hb2
        have O2 : Hid (w2.ownsRow w.heap.size 3 1 v2 (done ++ [p + m]).length (ints (casts (done ++ [p + m])))) := by
          have e1 : casts (done ++ [p + m]) = casts done ++ [((p : Int) + m)] := by simp [casts]
          rw [e1, List.length_append]
          exact hown2
        have B2 := Lib.hid (B1.out.trans hb2)
        clear hown2 hb2
        go_wp2
        go_roundw
        case rel => exact ⟨p + 1, m - 1, p + m, f - 1, done ++ [p + m], by go_num, by rw [Int.ofNat_sub (by omega)]; rfl, by omega, ⟨by omega, by omega, by have := HW.out.fuel; omega, by rw [List.append_assoc]; exact HA.out⟩, O2.out, B2.out⟩
        case measure => simp [intOf]; omega
    · have hlt' : ¬ (i : Int) < s.size := by omega
      have HE : Hid (done = all) := by
        have := HW.out.all
        rw [Utf.ends_end s f p (by omega), List.append_nil] at this
        exact this
      go_wp2
      go_ret
      exact ⟨_, rfl, by rw [casts_len, ← HE.out]; exact O.out, B.out⟩
end Go.Proofs.YtnmigbbokmibnaaDoor
