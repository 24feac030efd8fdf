/- The document's Valid, Count and Cut, and utf's Count and Cut, exactly. -/
import Derived.Test.YtmejaomglfaloaaDoorUtfEnds
import Derived.Test.YtmejaomglfaloaaDoorUtfValid
import Derived.Test.YtmejaomglfaloaaDoorUtfCut2
namespace Go.Proofs.YtmejaomglfaloaaDoor
open Go Go.RowKit

namespace Utf
theorem ends_at (s : ByteArray) (all : List Nat) (k f p : Nat) (h : all.drop k = ends s f p) (hf : s.size ≤ p + f) (hk : k < all.length) :
    p < s.size ∧ all.getD k 0 = p + (nx s p).2 ∧ all.drop (k + 1) = ends s (f - 1) (p + (nx s p).2) := by
  have hp : p < s.size := by
    rcases Nat.lt_or_ge p s.size with e | e
    · exact e
    · rw [ends_end s f p e] at h
      have := congrArg List.length h
      simp at this; omega
  rw [ends_step s f p hp hf, List.drop_eq_getElem_cons hk] at h
  injection h with h1 h2
  exact ⟨hp, by simp [List.getD, List.getElem?_eq_getElem hk, h1], h2⟩
theorem ends_no (s : ByteArray) (all : List Nat) (k f p : Nat) (h : all.drop k = ends s f p) (hf : s.size ≤ p + f) (hk : all.length ≤ k) : s.size ≤ p := by
  rcases Nat.lt_or_ge p s.size with e | e
  · rw [ends_step s f p e hf, List.drop_eq_nil_of_le hk] at h
    cases h
  · exact e
theorem lastIn_succ (n : Int) (l : List Nat) (k : Nat) (h : k < l.length) : lastIn n 0 (l.take (k + 1)) = if ((l.getD k 0 : Nat) : Int) ≤ n then l.getD k 0 else lastIn n 0 (l.take k) := by
  unfold lastIn
  rw [List.take_succ_eq_append_getElem h, List.foldl_append]
  simp [List.getD, List.getElem?_eq_getElem h]
theorem lastIn_le (n : Int) (l : List Nat) (B : Nat) (h : ∀ e ∈ l, e ≤ B) : lastIn n 0 l ≤ B := by
  unfold lastIn
  have : ∀ (l : List Nat) (a : Nat), (∀ e ∈ l, e ≤ B) → a ≤ B → l.foldl (fun (a : Nat) (e : Nat) => if (e : Int) ≤ n then e else a) a ≤ B := by
    intro l
    induction l with
    | nil => intro a _ ha; exact ha
    | cons e l ih =>
      intro a h ha
      rw [List.foldl_cons]
      exact ih _ (fun x hx => h x (by simp [hx])) (by split; exact h e (by simp); exact ha)
  exact this l 0 h (Nat.zero_le _)
theorem ends_within (s : ByteArray) : ∀ f p, ∀ e ∈ ends s f p, e ≤ s.size := by
  intro f
  induction f with
  | zero => intro p e h; simp [ends] at h
  | succ f ih =>
    intro p e h
    rw [ends] at h
    split at h
    · rename_i hp
      have := nx_step s p hp
      rcases List.mem_cons.1 h with rfl | h
      · omega
      · exact ih _ e h
    · simp at h
end Utf

set_option maxHeartbeats 1000000 in
theorem refValid_is (s : ByteArray) (w : World) (hs : s.size ≤ 100000) :
    Calls Tryd.prog 22 #[.string s] w (fun e w' => e = .returned (.bool (Utf.valid s)) ∧ Below w.heap.size w w') := by
  obtain ⟨b, hb⟩ : ∃ b, b = Utf.valid s := ⟨_, rfl⟩
  rw [← hb]
  have HB : Hid (b = Utf.vd s s.size 0) := hb
  clear hb
  go_enter Tryd.func22, Tryd.ntmps22
  go_wp2
  go_loopw [3, 9] (fun k i wr => ∃ (i' k' p f : Nat), i = .int .i64 i' ∧ k = .int .i64 k' ∧ i' ≤ s.size ∧ p = i' + k' ∧ p ≤ s.size ∧ s.size ≤ p + f ∧ b = Utf.vd s f p ∧ Below w.heap.size w wr) (fun _ i _ => s.size - (intOf i).toNat)
  case atStart => exact ⟨0, 0, 0, s.size, rfl, rfl, Nat.zero_le _, rfl, Nat.zero_le _, by omega, HB.out, Below.refl _ _⟩
  case round =>
    obtain ⟨i, k, p, f, rfl, rfl, hi, hpk, hp, hf, hbv, hb⟩ := hrel
    have BV := Lib.hid hbv; have B := Lib.hid hb
    clear hbv hb
    by_cases hlt : i < s.size
    · have hlt' : (i : Int) < s.size := by omega
      by_cases hk : 0 < k
      · have hk' : (k : Int) > 0 := by omega
        go_wp2
        go_roundw
        case rel => exact ⟨i + 1, k - 1, p, f, by go_num, by rw [Int.ofNat_sub (by omega)]; rfl, by omega, by omega, hp, hf, BV.out, B.out⟩
        case measure => simp [intOf]; omega
      · have hk0 : k = 0 := by omega
        have hpi : p = i := by omega
        subst hk0; subst hpi
        clear hpk hk
        have hst := Utf.nx_step s p hlt
        have HV := Lib.hid (fun h => Utf.vd_no s f p hlt hf h)
        have HV2 := Lib.hid (fun h => Utf.vd_step s f p hlt hf h)
        have NX := Lib.hid (refNext_in s p wr hlt (by omega))
        generalize Utf.nx s p = xm at hst HV HV2 NX
        obtain ⟨x, m⟩ := xm
        simp only at hst HV HV2
        obtain ⟨m1, m2, m3⟩ := hst
        by_cases hx : x < 0
        · have HE := Lib.hid (HV.out hx)
          clear HV HV2
          go_wp2_with fail
          refine NX.out.mono ?_
          rintro e w1 ⟨rfl, hb1⟩
          have B1 := Lib.hid (thenBelow B.out hb1)
          clear NX hb1
          go_wp2
          go_ret
          exact ⟨ret_bool (by rw [BV.out, HE.out]), B1.out⟩
        · have HE := Lib.hid (HV2.out hx)
          clear HV HV2
          go_wp2_with fail
          refine NX.out.mono ?_
          rintro e w1 ⟨rfl, hb1⟩
          have B1 := Lib.hid (thenBelow B.out hb1)
          clear NX hb1
          go_wp2
          go_roundw
          case rel => exact ⟨p + 1, m - 1, p + m, f - 1, by go_num, by rw [Int.ofNat_sub (by omega)]; rfl, by omega, by omega, by omega, by omega, by rw [BV.out, HE.out], B1.out⟩
          case measure => simp [intOf]; omega
    · have hlt' : ¬ (i : Int) < s.size := by omega
      have HE := Lib.hid (Utf.vd_end s f p (by omega))
      go_wp2
      go_ret
      exact ⟨ret_bool (by rw [BV.out, HE.out]), B.out⟩

set_option maxHeartbeats 1000000 in
theorem refCount_is (s : ByteArray) (w : World) (hs : s.size ≤ 100000) :
    Calls Tryd.prog 24 #[.string s] w (fun e w' => e = .returned (.int .i64 ((Utf.ends s s.size 0).length : Nat)) ∧ Below w.heap.size w w') := by
  have EN := Lib.hid (refEnds_is s w hs)
  have hl := casts_len (Utf.ends s s.size 0)
  obtain ⟨n, hn⟩ : ∃ n, n = (Utf.ends s s.size 0).length := ⟨_, rfl⟩
  rw [← hn] at hl ⊢
  generalize casts (Utf.ends s s.size 0) = L at EN hl
  subst hl
  clear hn
  go_enter Tryd.func24, Tryd.ntmps24
  go_wp2_with fail
  refine EN.out.mono ?_
  rintro e w1 ⟨v, rfl, hown, hb⟩
  obtain ⟨_, p, c, rfl, _, _, _⟩ := own_liesI hown
  have B := Lib.hid hb
  clear EN hown hb
  go_wp2
  go_ret
  exact ⟨rfl, B.out⟩

set_option maxHeartbeats 1000000 in
theorem count_is (s : ByteArray) (w : World) (hs : s.size ≤ 100000) (hT : Shapes w) :
    Calls Tryd.prog 23 #[.string s] w fun e w' => e = .returned (.int .i64 ((Utf.ends s s.size 0).length : Nat)) ∧ w = w' := by
  obtain ⟨all, hall⟩ : ∃ all, all = Utf.ends s s.size 0 := ⟨_, rfl⟩
  have hlen : all.length ≤ s.size := by rw [hall]; have := Utf.ends_len s s.size 0 (Nat.zero_le _); omega
  rw [← hall]
  have HA : Hid (all.drop 0 = Utf.ends s s.size 0) := hall
  have HT := Lib.hid hT
  clear hall hT
  go_enter Tryd.func23, Tryd.ntmps23
  go_wp2
  go_loop [3, 4] (fun c i => ∃ k p f : Nat, c = .int .i64 k ∧ i = .int .i64 p ∧ k ≤ all.length ∧ p ≤ s.size ∧ s.size ≤ p + f ∧ all.drop k = Utf.ends s f p) (fun _ i => s.size - (intOf i).toNat)
  case atStart => exact ⟨0, 0, s.size, rfl, rfl, Nat.zero_le _, Nat.zero_le _, by omega, HA.out⟩
  case round =>
    obtain ⟨k, p, f, rfl, rfl, hk, hp, hf, hd⟩ := hrel
    have HD := Lib.hid hd
    clear hd
    by_cases hlt : k < all.length
    · obtain ⟨h1, h2, h3⟩ := Utf.ends_at s all k f p HD.out hf hlt
      have NX := Lib.hid (next_in s p w h1 (by omega) HT.out)
      have hst := Utf.nx_step s p h1
      have H3 := Lib.hid h3
      clear h2 h3
      generalize Utf.nx s p = xm at hst H3 NX
      obtain ⟨x, m⟩ := xm
      simp only at hst H3
      obtain ⟨m1, m2, m3⟩ := hst
      have h1' : (p : Int) < s.size := by omega
      go_wp2_with fail
      refine NX.out.mono ?_
      rintro e w' ⟨rfl, rfl⟩
      go_wp2
      go_round
      case rel => exact ⟨k + 1, p + m, f - 1, by go_num, by go_num, by omega, by omega, by omega, H3.out⟩
      case measure => simp [intOf]; omega
    · have h1 := Utf.ends_no s all k f p HD.out hf (by omega)
      obtain rfl : k = all.length := by omega
      have h1' : ¬ (p : Int) < s.size := by omega
      go_wp2
      go_ret
      exact ⟨rfl, rfl⟩

/-- a text that is handed back, and what was there -/
def RetT (w : World) (s : ByteArray) (e : Ending) (w' : World) : Prop := e = .returned (.string s) ∧ Below w.heap.size w w'

set_option maxHeartbeats 2000000 in
theorem cut_exact (s : ByteArray) (n : Int) (w : World) (hs : s.size ≤ 100000) (hn : -9223372036854775808 ≤ n ∧ n ≤ 9223372036854775807) (hT : Shapes w) :
    Calls Tryd.prog 25 #[.string s, .int .i64 n] w (RetT w (s.extract 0 (Utf.cutF s n s.size 0))) := by
  obtain ⟨P, hP⟩ : ∃ P, P = Utf.cutF s n s.size 0 := ⟨_, rfl⟩
  rw [← hP]
  have HP0 := Lib.hid hP
  have HT := Lib.hid hT
  clear hT hP
  go_enter Tryd.func25, Tryd.ntmps25
  go_wp2
  go_loop [5] (fun i => ∃ p f : Nat, p ≤ s.size ∧ s.size ≤ p + f ∧ i = .int .i64 p ∧ (p = 0 ∨ (p : Int) ≤ n) ∧ P = Utf.cutF s n f p) (fun i => s.size - (intOf i).toNat)
  case atStart => exact ⟨0, s.size, Nat.zero_le _, by omega, rfl, .inl rfl, HP0.out⟩
  case round =>
    obtain ⟨p, f, hp, hf, rfl, hpn, hPp⟩ := hrel
    have hb1 : -9223372036854775808 ≤ n - p := by omega
    have hb2 : n - p ≤ 9223372036854775807 := by omega
    have HP := Lib.hid hPp
    have HCL := Lib.hid (fun w => clone_is (s.extract 0 p) w (by rw [Utf.pre_size s p hp]; omega))
    clear hPp hpn
    by_cases hps : p < s.size
    · have hnx := next_in s p w hps (by omega) HT.out
      have hst := Utf.nx_step s p hps
      have HX := Lib.hid (fun h => Utf.cutF_step s n f p hps hf h)
      have HY := Lib.hid (fun h => Utf.cutF_no s n f p h)
      generalize Utf.nx s p = xm at hnx hst HX HY
      obtain ⟨x, m⟩ := xm
      simp only at hnx hst HX HY
      obtain ⟨n1, n2, n3⟩ := hst
      have hp' : (p : Int) < s.size := by omega
      by_cases hm : (m : Int) > n - p
      · have HC : Hid (P = p) := by
          have := HY.out (by omega)
          exact HP.out.trans this
        clear HX HY HP
        go_wp2_with fail
        refine hnx.mono ?_
        rintro e w' ⟨rfl, rfl⟩
        clear hnx
        go_wp2_with fail
        refine (HCL.out w).mono ?_
        rintro e w1 ⟨rfl, hb⟩
        go_wp2_with fail
        go_ret
        exact ⟨by rw [HC.out]; rfl, hb⟩
      · have HC : Hid (P = Utf.cutF s n (f - 1) (p + m)) := by
          have := HX.out (by omega)
          exact HP.out.trans this
        clear HX HY HP
        go_wp2_with fail
        refine hnx.mono ?_
        rintro e w' ⟨rfl, rfl⟩
        clear hnx
        go_wp2
        go_round
        case rel => exact ⟨p + m, f - 1, by omega, by omega, by go_num, .inr (by omega), HC.out⟩
        case measure => simp [intOf]; omega
    · have hp' : ¬ (p : Int) < s.size := by omega
      have HC : Hid (P = p) := HP.out.trans (Utf.cutF_end s n f p (by omega))
      go_wp2_with fail
      refine (HCL.out w).mono ?_
      rintro e w1 ⟨rfl, hb⟩
      go_wp2_with fail
      go_ret
      exact ⟨by rw [HC.out]; rfl, hb⟩

set_option maxHeartbeats 2000000 in
theorem refCut_is (s : ByteArray) (n : Int) (w : World) (hs : s.size ≤ 100000) :
    Calls Tryd.prog 26 #[.string s, .int .i64 n] w (RetT w (s.extract 0 (Utf.cutF s n s.size 0))) := by
  have EN := Lib.hid (refEnds_is s w hs)
  obtain ⟨all, hall⟩ : ∃ all, all = Utf.ends s s.size 0 := ⟨_, rfl⟩
  have hlen : all.length ≤ s.size := by rw [hall]; have := Utf.ends_len s s.size 0 (Nat.zero_le _); omega
  have HLI : Hid (Utf.lastIn n 0 all = Utf.cutF s n s.size 0) := by rw [hall]; exact Utf.lastIn_ends s n s.size 0 (by omega)
  have HW : Hid (∀ e ∈ all, e ≤ s.size) := by rw [hall]; exact Utf.ends_within s _ _
  rw [← hall] at EN
  obtain ⟨P, hP⟩ : ∃ P, P = Utf.cutF s n s.size 0 := ⟨_, rfl⟩
  rw [← hP] at HLI ⊢
  clear hall hP
  have hl := casts_len all
  go_enter Tryd.func26, Tryd.ntmps26
  go_wp2_with fail
  refine EN.out.mono ?_
  rintro e w1 ⟨v, rfl, hown, hb⟩
  obtain ⟨_, q, c, rfl, _, lies, _⟩ := own_liesI hown
  have LI := Lib.hid lies; have B := Lib.hid hb
  rw [hl] at *
  clear EN hown hb lies hl
  go_wp2
  go_loop [5, 11] (fun a i => ∃ k : Nat, k ≤ all.length ∧ i = .int .i64 k ∧ a = .int .i64 ((Utf.lastIn n 0 (all.take k) : Nat) : Int)) (fun _ i => all.length - (intOf i).toNat)
  case atStart => exact ⟨0, Nat.zero_le _, rfl, rfl⟩
  case round =>
    obtain ⟨k, hk, rfl, rfl⟩ := hrel
    by_cases hlt : k < all.length
    · obtain ⟨b, o, rfl, hbb, hcell⟩ := LI.out.at (by rw [casts_len]; omega)
      have hc := hcell k (by rw [casts_len]; exact hlt)
      rw [casts_get all k hlt] at hc
      have HS := Lib.hid (Utf.lastIn_succ n all k hlt)
      clear hcell
      have hel : all.getD k 0 ≤ s.size := by
        have : all.getD k 0 = all[k] := by simp [List.getD, List.getElem?_eq_getElem hlt]
        rw [this]; exact HW.out _ (List.getElem_mem _)
      generalize all.getD k 0 = x at hc HS hel
      by_cases hx : (x : Int) ≤ n
      · have HS2 : Hid (Utf.lastIn n 0 (all.take (k + 1)) = x) := by have := HS.out; rw [if_pos hx] at this; exact this
        clear HS
        go_wp2
        go_round
        case rel => exact ⟨k + 1, by omega, by go_num, by rw [HS2.out]⟩
        case measure => simp [intOf]; omega
      · have HS2 : Hid (Utf.lastIn n 0 (all.take (k + 1)) = Utf.lastIn n 0 (all.take k)) := by have := HS.out; rw [if_neg hx] at this; exact this
        clear HS
        go_wp2
        go_round
        case rel => exact ⟨k + 1, by omega, by go_num, by rw [HS2.out]⟩
        case measure => simp [intOf]; omega
    · obtain rfl : k = all.length := by omega
      have HPP : Hid (Utf.lastIn n 0 (all.take all.length) = P) := by rw [List.take_length]; exact HLI.out
      have hle := Utf.lastIn_le n (all.take all.length) s.size (fun e he => HW.out e (List.mem_of_mem_take he))
      generalize Utf.lastIn n 0 (all.take all.length) = y at HPP hle
      go_wp2
      go_ret
      exact ⟨by rw [← HPP.out]; rfl, B.out⟩
end Go.Proofs.YtmejaomglfaloaaDoor
