/- The document's Valid, Count and Cut, and utf's Count and Cut, exactly. -/
import Derived.Test.YtnmigbbokmibnaaDoorUtfEnds
import Derived.Test.YtnmigbbokmibnaaDoorUtfValid
import Derived.Test.YtnmigbbokmibnaaDoorUtfCut2
namespace Go.Proofs.YtnmigbbokmibnaaDoor
open Go Go.RowKit

namespace Utf
theorem ends_at (s : ByteArray) (all : List Nat) (k f p : Nat) (h : all.drop k = ends s f p) (hf : s.size ≤ p + f) (hk : k < all.length) :
    p < s.size ∧ all.getD k 0 = p + (nx s p).2 ∧ all.drop (k + 1) = ends s (f - 1) (p + (nx s p).2) := by
  have hp : p < s.size := by
    rcases Nat.lt_or_ge p s.size with e | e
    · exact e
    · rw [ends_end s f p e] at h
      have := congrArg List.length h
      simp at this; omega
  rw [ends_step s f p hp hf, List.drop_eq_getElem_cons hk] at h
  injection h with h1 h2
  exact ⟨hp, by simp [List.getD, List.getElem?_eq_getElem hk, h1], h2⟩
theorem ends_no (s : ByteArray) (all : List Nat) (k f p : Nat) (h : all.drop k = ends s f p) (hf : s.size ≤ p + f) (hk : all.length ≤ k) : s.size ≤ p := by
  rcases Nat.lt_or_ge p s.size with e | e
  · rw [ends_step s f p e hf, List.drop_eq_nil_of_le hk] at h
    cases h
  · exact e
theorem lastIn_succ (n : Int) (l : List Nat) (k : Nat) (h : k < l.length) : lastIn n 0 (l.take (k + 1)) = if ((l.getD k 0 : Nat) : Int) ≤ n then l.getD k 0 else lastIn n 0 (l.take k) := by
  unfold lastIn
  rw [List.take_succ_eq_append_getElem h, List.foldl_append]
  simp [List.getD, List.getElem?_eq_getElem h]
theorem lastIn_le (n : Int) (l : List Nat) (B : Nat) (h : ∀ e ∈ l, e ≤ B) : lastIn n 0 l ≤ B := by
  unfold lastIn
  have : ∀ (l : List Nat) (a : Nat), (∀ e ∈ l, e ≤ B) → a ≤ B → l.foldl (fun (a : Nat) (e : Nat) => if (e : Int) ≤ n then e else a) a ≤ B := by
    intro l
    induction l with
    | nil => intro a _ ha; exact ha
    | cons e l ih =>
      intro a h ha
      rw [List.foldl_cons]
      exact ih _ (fun x hx => h x (by simp [hx])) (by split; exact h e (by simp); exact ha)
  exact this l 0 h (Nat.zero_le _)
theorem ends_within (s : ByteArray) : ∀ f p, ∀ e ∈ ends s f p, e ≤ s.size := by
  intro f
  induction f with
  | zero => intro p e h; simp [ends] at h
  | succ f ih =>
    intro p e h
    rw [ends] at h
    split at h
    · rename_i hp
      have := nx_step s p hp
      rcases List.mem_cons.1 h with rfl | h
      · omega
      · exact ih _ e h
    · simp at h
end Utf

set_option maxHeartbeats 1000000 in
theorem count_is (s : ByteArray) (w : World) (hs : s.size ≤ 100000) (hT : Shapes w) :
    Calls Tryd.prog 23 #[.string s] w fun e w' => e = .returned (.int .i64 ((Utf.ends s s.size 0).length : Nat)) ∧ w = w' := by
  obtain ⟨all, hall⟩ : ∃ all, all = Utf.ends s s.size 0 := ⟨_, rfl⟩
  have hlen : all.length ≤ s.size := by rw [hall]; have := Utf.ends_len s s.size 0 (Nat.zero_le _); omega
  rw [← hall]
  have HA : Hid (all.drop 0 = Utf.ends s s.size 0) := hall
  have HT := Lib.hid hT
  clear hall hT
  go_enter Tryd.func23, Tryd.ntmps23
  go_wp2
  go_loop [3, 4] (fun c i => ∃ k p f : Nat, c = .int .i64 k ∧ i = .int .i64 p ∧ k ≤ all.length ∧ p ≤ s.size ∧ s.size ≤ p + f ∧ all.drop k = Utf.ends s f p) (fun _ i => s.size - (intOf i).toNat)
  case atStart => exact ⟨0, 0, s.size, rfl, rfl, Nat.zero_le _, Nat.zero_le _, by omega, HA.out⟩
  case round =>
    obtain ⟨k, p, f, rfl, rfl, hk, hp, hf, hd⟩ := hrel
    have HD := Lib.hid hd
    clear hd
    by_cases hlt : k < all.length
    · obtain ⟨h1, h2, h3⟩ := Utf.ends_at s all k f p HD.out hf hlt
      have NX := Lib.hid (next_in s p w h1 (by omega) HT.out)
      have hst := Utf.nx_step s p h1
      have H3 := Lib.hid h3
      clear h2 h3
      generalize Utf.nx s p = xm at hst H3 NX
      obtain ⟨x, m⟩ := xm
      simp only at hst H3
      obtain ⟨m1, m2, m3⟩ := hst
      have h1' : (p : Int) < s.size := by omega
      go_wp2_with fail
      refine NX.out.mono ?_
      rintro e w' ⟨rfl, rfl⟩
      go_wp2
      go_round
      case rel => exact ⟨k + 1, p + m, f - 1, by go_num, by go_num, by omega, by omega, by omega, H3.out⟩
      case measure => simp [intOf]; omega
    · have h1 := Utf.ends_no s all k f p HD.out hf (by omega)
      obtain rfl : k = all.length := by omega
      have h1' : ¬ (p : Int) < s.size := by omega
      go_wp2
      go_ret
      exact ⟨rfl, rfl⟩

/-- a text that is handed back, and what was there -/
def RetT (w : World) (s : ByteArray) (e : Ending) (w' : World) : Prop := e = .returned (.string s) ∧ Below w.heap.size w w'

end Go.Proofs.YtnmigbbokmibnaaDoor
