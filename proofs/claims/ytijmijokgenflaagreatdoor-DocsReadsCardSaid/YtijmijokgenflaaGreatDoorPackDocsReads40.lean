/- The statement DocsReads, proved for every input that its row reads: part 40 of 54. -/
import Derived.Test.YtijmijokgenflaaGreatDoorPackDocsReads39
import Derived.Test.YtijmijokgenflaaGreatDoorMemInts
import Derived.Test.YtijmijokgenflaaGreatDoorPackDocsReads17
import Derived.Test.YtijmijokgenflaaGreatDoorPackDocsReads38
/- Where steps end: the document's Ends, Valid, Count, Cut, and utf's Count and Cut, exactly. -/
namespace Go.Proofs.YtijmijokgenflaaGreatDoor
open Go Go.RowKit

namespace Utf
/-- the ends of the steps from p on -/
def ends (s : ByteArray) : Nat → Nat → List Nat
  | 0, _ => []
  | f + 1, p => if p < s.size then (p + (nx s p).2) :: ends s f (p + (nx s p).2) else []
theorem ends_end (s : ByteArray) (f p : Nat) (h : s.size ≤ p) : ends s f p = [] := by
  cases f with
  | zero => rfl
  | succ f => rw [ends, if_neg (by omega)]
theorem ends_step (s : ByteArray) (f p : Nat) (h : p < s.size) (hf : s.size ≤ p + f) : ends s f p = (p + (nx s p).2) :: ends s (f - 1) (p + (nx s p).2) := by
  cases f with
  | zero => omega
  | succ f => rw [ends, if_pos h]; rfl
theorem ends_len (s : ByteArray) : ∀ f p, p ≤ s.size → (ends s f p).length + p ≤ s.size := by
  intro f
  induction f with
  | zero => intro p h; simp [ends, h]
  | succ f ih =>
    intro p h
    rw [ends]
    split
    · rename_i hp
      have := nx_step s p hp
      have := ih (p + (nx s p).2) (by omega)
      simp only [List.length_cons]; omega
    · simp; omega
theorem ends_fuel (s : ByteArray) : ∀ f g p, s.size ≤ p + f → s.size ≤ p + g → ends s f p = ends s g p := by
  intro f
  induction f with
  | zero => intro g p h _; rw [ends_end s _ p (by omega), ends_end s _ p (by omega)]
  | succ f ih =>
    intro g p h1 h2
    by_cases hp : p < s.size
    · have := nx_step s p hp
      rw [ends_step s (f + 1) p hp h1, ends_step s g p hp h2, Nat.add_sub_cancel, ih (g - 1) _ (by omega) (by omega)]
    · rw [ends_end s _ p (by omega), ends_end s _ p (by omega)]
/-- where the longest beginning of at most n ends -/
def cutF (s : ByteArray) (n : Int) : Nat → Nat → Nat
  | 0, p => p
  | f + 1, p => if p < s.size then (if ((p + (nx s p).2 : Nat) : Int) ≤ n then cutF s n f (p + (nx s p).2) else p) else p
theorem cutF_end (s : ByteArray) (n : Int) (f p : Nat) (h : s.size ≤ p) : cutF s n f p = p := by
  cases f with
  | zero => rfl
  | succ f => rw [cutF, if_neg (by omega)]
theorem cutF_no (s : ByteArray) (n : Int) (f p : Nat) (h : ¬ ((p + (nx s p).2 : Nat) : Int) ≤ n) : cutF s n f p = p := by
  cases f with
  | zero => rfl
  | succ f => rw [cutF, if_neg h]; split <;> rfl
theorem cutF_step (s : ByteArray) (n : Int) (f p : Nat) (h : p < s.size) (hf : s.size ≤ p + f) (hn : ((p + (nx s p).2 : Nat) : Int) ≤ n) : cutF s n f p = cutF s n (f - 1) (p + (nx s p).2) := by
  cases f with
  | zero => omega
  | succ f => rw [cutF, if_pos h, if_pos hn]; rfl
theorem cutF_le (s : ByteArray) (n : Int) : ∀ f p, p ≤ s.size → cutF s n f p ≤ s.size := by
  intro f
  induction f with
  | zero => intro p h; exact h
  | succ f ih =>
    intro p h
    rw [cutF]
    split
    · rename_i hp
      have := nx_step s p hp
      split
      · exact ih _ (by omega)
      · exact h
    · exact h
/-- what the document's Cut has behind some ends -/
def lastIn (n : Int) (at_ : Nat) (l : List Nat) : Nat := l.foldl (fun (a : Nat) (e : Nat) => if (e : Int) ≤ n then e else a) at_
theorem lastIn_big (n : Int) (at_ : Nat) (l : List Nat) (h : ∀ e ∈ l, ¬ (e : Int) ≤ n) : lastIn n at_ l = at_ := by
  induction l with
  | nil => rfl
  | cons e l ih =>
    unfold lastIn at ih ⊢
    rw [List.foldl_cons, if_neg (h e (by simp))]
    exact ih fun x hx => h x (by simp [hx])
theorem ends_above (s : ByteArray) : ∀ f p, ∀ e ∈ ends s f p, p < e := by
  intro f
  induction f with
  | zero => intro p e h; simp [ends] at h
  | succ f ih =>
    intro p e h
    rw [ends] at h
    split at h
    · rename_i hp
      have := nx_step s p hp
      rcases List.mem_cons.1 h with rfl | h
      · omega
      · have := ih _ e h; omega
    · simp at h
theorem lastIn_ends (s : ByteArray) (n : Int) : ∀ f p, s.size ≤ p + f → lastIn n p (ends s f p) = cutF s n f p := by
  intro f
  induction f with
  | zero => intro p _; rfl
  | succ f ih =>
    intro p hf
    by_cases hp : p < s.size
    · have hst := nx_step s p hp
      rw [ends_step s _ p hp hf, Nat.add_sub_cancel]
      by_cases hn : ((p + (nx s p).2 : Nat) : Int) ≤ n
      · rw [cutF_step s n _ p hp hf hn, Nat.add_sub_cancel, ← ih _ (by omega)]
        unfold lastIn
        rw [List.foldl_cons, if_pos hn]
      · rw [cutF_no s n _ p hn]
        refine lastIn_big n p _ fun e he => ?_
        rcases List.mem_cons.1 he with rfl | he
        · exact hn
        · have := ends_above s _ _ e he; omega
    · rw [ends_end s _ p (by omega), cutF_end s n _ p (by omega)]; rfl
end Utf

def casts (l : List Nat) : List Int := l.map fun (n : Nat) => (n : Int)
theorem casts_len (l : List Nat) : (casts l).length = l.length := by simp [casts]
theorem casts_get (l : List Nat) (i : Nat) (h : i < l.length) : (casts l).getD i 0 = ((l.getD i 0 : Nat) : Int) := by
  simp [casts, List.getD, List.getElem?_eq_getElem h]

/-- the relation of the document's walk through a text: the next step begins at p = i + skip -/
structure Walks (s : ByteArray) (i skip p f : Nat) (done all : List Nat) : Prop where
  at_ : p = i + skip
  le : p ≤ s.size
  fuel : s.size ≤ p + f
  all : done ++ Utf.ends s f p = all

end Go.Proofs.YtijmijokgenflaaGreatDoor
/- The document's Valid, Count and Cut, and utf's Count and Cut, exactly. -/
namespace Go.Proofs.YtijmijokgenflaaGreatDoor
open Go Go.RowKit

namespace Utf
theorem ends_at (s : ByteArray) (all : List Nat) (k f p : Nat) (h : all.drop k = ends s f p) (hf : s.size ≤ p + f) (hk : k < all.length) :
    p < s.size ∧ all.getD k 0 = p + (nx s p).2 ∧ all.drop (k + 1) = ends s (f - 1) (p + (nx s p).2) := by
  have hp : p < s.size := by
    rcases Nat.lt_or_ge p s.size with e | e
    · exact e
    · rw [ends_end s f p e] at h
      have := congrArg List.length h
      simp at this; omega
  rw [ends_step s f p hp hf, List.drop_eq_getElem_cons hk] at h
  injection h with h1 h2
  exact ⟨hp, by simp [List.getD, List.getElem?_eq_getElem hk, h1], h2⟩
theorem ends_no (s : ByteArray) (all : List Nat) (k f p : Nat) (h : all.drop k = ends s f p) (hf : s.size ≤ p + f) (hk : all.length ≤ k) : s.size ≤ p := by
  rcases Nat.lt_or_ge p s.size with e | e
  · rw [ends_step s f p e hf, List.drop_eq_nil_of_le hk] at h
    cases h
  · exact e
theorem lastIn_succ (n : Int) (l : List Nat) (k : Nat) (h : k < l.length) : lastIn n 0 (l.take (k + 1)) = if ((l.getD k 0 : Nat) : Int) ≤ n then l.getD k 0 else lastIn n 0 (l.take k) := by
  unfold lastIn
  rw [List.take_succ_eq_append_getElem h, List.foldl_append]
  simp [List.getD, List.getElem?_eq_getElem h]
theorem lastIn_le (n : Int) (l : List Nat) (B : Nat) (h : ∀ e ∈ l, e ≤ B) : lastIn n 0 l ≤ B := by
  unfold lastIn
  have : ∀ (l : List Nat) (a : Nat), (∀ e ∈ l, e ≤ B) → a ≤ B → l.foldl (fun (a : Nat) (e : Nat) => if (e : Int) ≤ n then e else a) a ≤ B := by
    intro l
    induction l with
    | nil => intro a _ ha; exact ha
    | cons e l ih =>
      intro a h ha
      rw [List.foldl_cons]
      exact ih _ (fun x hx => h x (by simp [hx])) (by split; exact h e (by simp); exact ha)
  exact this l 0 h (Nat.zero_le _)
theorem ends_within (s : ByteArray) : ∀ f p, ∀ e ∈ ends s f p, e ≤ s.size := by
  intro f
  induction f with
  | zero => intro p e h; simp [ends] at h
  | succ f ih =>
    intro p e h
    rw [ends] at h
    split at h
    · rename_i hp
      have := nx_step s p hp
      rcases List.mem_cons.1 h with rfl | h
      · omega
      · exact ih _ e h
    · simp at h
end Utf

set_option maxHeartbeats 1000000 in
theorem utfRefValid_is (s : ByteArray) (w : World) (hs : s.size ≤ 100000) :
    Calls Tryz.prog 97 #[.string s] w (fun e w' => e = .returned (.bool (Utf.valid s)) ∧ Below w.heap.size w w') := by
  obtain ⟨b, hb⟩ : ∃ b, b = Utf.valid s := ⟨_, rfl⟩
  rw [← hb]
  have HB : Hid (b = Utf.vd s s.size 0) := hb
  clear hb
  go_enter Tryz.func97, Tryz.ntmps97
  go_wp2
  go_loopw [3, 9] (fun k i wr => ∃ (i' k' p f : Nat), i = .int .i64 i' ∧ k = .int .i64 k' ∧ i' ≤ s.size ∧ p = i' + k' ∧ p ≤ s.size ∧ s.size ≤ p + f ∧ b = Utf.vd s f p ∧ Below w.heap.size w wr) (fun _ i _ => s.size - (intOf i).toNat)
  case atStart => exact ⟨0, 0, 0, s.size, rfl, rfl, Nat.zero_le _, rfl, Nat.zero_le _, by omega, HB.out, Below.refl _ _⟩
  case round =>
    obtain ⟨i, k, p, f, rfl, rfl, hi, hpk, hp, hf, hbv, hb⟩ := hrel
    have BV := Lib.hid hbv; have B := Lib.hid hb
    clear hbv hb
    by_cases hlt : i < s.size
    · have hlt' : (i : Int) < s.size := by omega
      by_cases hk : 0 < k
      · have hk' : (k : Int) > 0 := by omega
        go_wp2
        go_roundw
        case rel => exact ⟨i + 1, k - 1, p, f, by go_num, by rw [Int.ofNat_sub (by omega)]; rfl, by omega, by omega, hp, hf, BV.out, B.out⟩
        case measure => simp [intOf]; omega
      · have hk0 : k = 0 := by omega
        have hpi : p = i := by omega
        subst hk0; subst hpi
        clear hpk hk
        have hst := Utf.nx_step s p hlt
        have HV := Lib.hid (fun h => Utf.vd_no s f p hlt hf h)
        have HV2 := Lib.hid (fun h => Utf.vd_step s f p hlt hf h)
        have NX := Lib.hid (refNext_in s p wr hlt (by omega))
        generalize Utf.nx s p = xm at hst HV HV2 NX
        obtain ⟨x, m⟩ := xm
        simp only at hst HV HV2
        obtain ⟨m1, m2, m3⟩ := hst
        by_cases hx : x < 0
        · have HE := Lib.hid (HV.out hx)
          clear HV HV2
          go_wp2_with fail
          refine NX.out.mono ?_
          rintro e w1 ⟨rfl, hb1⟩
          have B1 := Lib.hid (thenBelow B.out hb1)
          clear NX hb1
          go_wp2
          go_ret
          exact ⟨ret_bool (by rw [BV.out, HE.out]), B1.out⟩
        · have HE := Lib.hid (HV2.out hx)
          clear HV HV2
          go_wp2_with fail
          refine NX.out.mono ?_
          rintro e w1 ⟨rfl, hb1⟩
          have B1 := Lib.hid (thenBelow B.out hb1)
          clear NX hb1
          go_wp2
          go_roundw
          case rel => exact ⟨p + 1, m - 1, p + m, f - 1, by go_num, by rw [Int.ofNat_sub (by omega)]; rfl, by omega, by omega, by omega, by omega, by rw [BV.out, HE.out], B1.out⟩
          case measure => simp [intOf]; omega
    · have hlt' : ¬ (i : Int) < s.size := by omega
      have HE := Lib.hid (Utf.vd_end s f p (by omega))
      go_wp2
      go_ret
      exact ⟨ret_bool (by rw [BV.out, HE.out]), B.out⟩

/-- a text that is handed back, and what was there -/
def RetT (w : World) (s : ByteArray) (e : Ending) (w' : World) : Prop := e = .returned (.string s) ∧ Below w.heap.size w w'

end Go.Proofs.YtijmijokgenflaaGreatDoor
