/- The contracts of the document's own Sign, Bytes, Put (layer 3). -/
import Derived.Test.YtldfomggeleolaaDoorUtfPut
namespace Go.Proofs.YtldfomggeleolaaDoor
open Go Go.RowKit

set_option maxHeartbeats 1000000 in
theorem refSign_is (r : Int) (w : World) : Calls Tryd.prog 49 #[.int .i64 r] w fun e w' => e = .returned (.bool (Utf.sg r)) ∧ w = w' := by
  obtain ⟨b, hb⟩ : ∃ b, b = Utf.sg r := ⟨_, rfl⟩
  rw [← hb]
  have key : (r < 0 ∧ b = false) ∨ ((0 ≤ r ∧ r < 55296) ∧ b = true) ∨ ((55296 ≤ r ∧ r ≤ 57343) ∧ b = false) ∨ ((57343 < r ∧ r ≤ 1114111) ∧ b = true) ∨ (1114111 < r ∧ b = false) := by
    rw [hb]; unfold Utf.sg
    simp only [decide_eq_true_eq, decide_eq_false_iff_not]
    omega
  clear hb
  rcases key with ⟨h1, rfl⟩ | ⟨⟨h1, h2⟩, rfl⟩ | ⟨⟨h1, h2⟩, rfl⟩ | ⟨⟨h1, h2⟩, rfl⟩ | ⟨h1, rfl⟩
  all_goals
    go_enter Tryd.func49, Tryd.ntmps49
    go_wp2
    go_ret
    exact ⟨ret_bool (by first | rfl | (simp; done) | (simp; omega)), rfl⟩

namespace Utf
def EncIs (r : Int) (L : List UInt8) : Prop := enc r = L
theorem enc_one (m : Nat) (h : sg (m : Int) = true) (h1 : m ≤ 127) : enc (m : Int) = [UInt8.ofNat m] := by
  unfold enc
  rw [h]
  have e : sh (m : Int) = 0 := by unfold sh; rw [if_pos (by omega)]
  simp [e, encK, lead]
theorem enc_two (m : Nat) (h : sg (m : Int) = true) (h1 : ¬ m ≤ 127) (h2 : m ≤ 2047) : enc (m : Int) = [UInt8.ofNat (192 + m / 64), UInt8.ofNat (128 + m % 64)] := by
  unfold enc
  rw [h]
  have e : sh (m : Int) = 1 := by unfold sh; rw [if_neg (by omega), if_pos (by omega)]
  simp [e, encK, lead, tailB, List.range_succ]
theorem enc_three (m : Nat) (h : sg (m : Int) = true) (h1 : ¬ m ≤ 2047) (h2 : m ≤ 65535) : enc (m : Int) = [UInt8.ofNat (224 + m / 4096), UInt8.ofNat (128 + m / 64 % 64), UInt8.ofNat (128 + m % 64)] := by
  unfold enc
  rw [h]
  have e : sh (m : Int) = 2 := by unfold sh; rw [if_neg (by omega), if_neg (by omega), if_pos (by omega)]
  simp [e, encK, lead, tailB, List.range_succ]
theorem enc_four (m : Nat) (h : sg (m : Int) = true) (h1 : ¬ m ≤ 65535) : enc (m : Int) = [UInt8.ofNat (240 + m / 262144), UInt8.ofNat (128 + m / 4096 % 64), UInt8.ofNat (128 + m / 64 % 64), UInt8.ofNat (128 + m % 64)] := by
  unfold enc
  rw [h]
  have e : sh (m : Int) = 3 := by unfold sh; rw [if_neg (by omega), if_neg (by omega), if_neg (by omega)]
  simp [e, encK, lead, tailB, List.range_succ]
end Utf

theorem byte_nat (n : Nat) (h : n < 256) : ((UInt8.ofNat n).toNat : Int) = (n : Int) := by
  rw [UInt8.toNat_ofNat', Nat.mod_eq_of_lt h]
theorem retOwn_lit {w : World} {L : List UInt8} {cs : Array Value} (hcs : cs.toList = bys L) (hn : 0 < L.length) {e : Ending} (he : e = .returned (.slice (some ⟨w.heap.size, 0, none⟩) L.length L.length)) (hlen : L.length ≤ 1000) :
    RetOwn w 5 L e (w.alloc (.cells cs 5)) := by
  have h := World.ownsRow_lit (base := w.heap.size) (e := 5) (size := 1) w cs L.length (Nat.le_refl _) (by unfold maxLen; omega) (by rw [← Array.length_toList, hcs, bys_length, Nat.mul_one])
  rw [hcs] at h
  exact ⟨_, he, h, (Below.refl _ _).alloc (Nat.le_refl _) _⟩

set_option maxHeartbeats 2000000 in
set_option maxRecDepth 10000000 in
theorem refBytes3 (r : Int) (w : World) : Calls Tryd.prog 43 #[.int .i64 r] w (RetOwn w 5 (Utf.enc r)) := by
  have hs := refSign_is r w
  cases hsv : Utf.sg r with
  | false =>
    have hE : Hid (Utf.enc r = []) := by unfold Utf.enc; rw [hsv]; rfl
    rw [hsv] at hs
    clear hsv
    go_enter Tryd.func43, Tryd.ntmps43
    go_wp2_with fail
    refine hs.mono ?_
    rintro e w' ⟨rfl, rfl⟩
    go_wp2_with fail
    go_ret
    rw [hE.out]
    exact ⟨_, rfl, World.ownsRow_nil _ _ _ _, Below.refl _ _⟩
  | true =>
    rw [hsv] at hs
    have hr : 0 ≤ r ∧ r ≤ 1114111 := by unfold Utf.sg at hsv; simp only [decide_eq_true_eq] at hsv; omega
    obtain ⟨hr1, hr2⟩ := hr
    obtain ⟨m, rfl⟩ := Int.eq_ofNat_of_zero_le hr1
    by_cases h1 : m ≤ 127
    · have HS := Lib.hid hsv
      clear hsv
      go_enter Tryd.func43, Tryd.ntmps43
      go_wp2_with fail
      refine hs.mono ?_
      rintro e w' ⟨rfl, rfl⟩
      go_wp2_with fail
      go_ret
      rw [Utf.enc_one m HS.out (by omega)]
      exact retOwn_lit (by simp [bys]; omega) (by simp) rfl (by simp)
    · by_cases h2 : m ≤ 2047
      · have HS := Lib.hid hsv
        clear hsv
        go_enter Tryd.func43, Tryd.ntmps43
        go_wp2_with fail
        refine hs.mono ?_
        rintro e w' ⟨rfl, rfl⟩
        go_wp2_with fail
        go_ret
        rw [Utf.enc_two m HS.out (by omega) (by omega)]
        exact retOwn_lit (by simp [bys]; omega) (by simp) rfl (by simp)
      · by_cases h3 : m ≤ 65535
        · have HS := Lib.hid hsv
          clear hsv
          go_enter Tryd.func43, Tryd.ntmps43
          go_wp2_with fail
          refine hs.mono ?_
          rintro e w' ⟨rfl, rfl⟩
          go_wp2_with fail
          go_ret
          rw [Utf.enc_three m HS.out (by omega) (by omega)]
          exact retOwn_lit (by simp [bys]; omega) (by simp) rfl (by simp)
        · have HS := Lib.hid hsv
          clear hsv
          go_enter Tryd.func43, Tryd.ntmps43
          go_wp2_with fail
          refine hs.mono ?_
          rintro e w' ⟨rfl, rfl⟩
          go_wp2_with fail
          go_ret
          rw [Utf.enc_four m HS.out (by omega)]
          exact retOwn_lit (by simp [bys]; omega) (by simp) rfl (by simp)

set_option maxHeartbeats 1000000 in
theorem refPut3 (p : Option Addr) (c : Nat) (l : List UInt8) (r : Int) (w : World) (h : Lies w p l) (hp : p = none → l = [] ∧ c = 0) (hlen : l.length ≤ 140737488355000) :
    Calls Tryd.prog 35 #[.slice p l.length c, .int .i64 r] w (RetOwn w 5 (l ++ Utf.enc r)) := by
  have H := Lib.hid h; have HP := Lib.hid hp
  have hb := refBytes3 r
  have HB := Lib.hid hb
  have hl4 : (Utf.enc r).length ≤ 4 := by
    unfold Utf.enc
    split
    · have := Utf.sh_le r
      simp only [Utf.encK, List.length_cons, List.length_map, List.length_range]; omega
    · simp
  obtain ⟨E, hE⟩ : ∃ E, E = Utf.enc r := ⟨_, rfl⟩
  rw [← hE] at HB hl4 ⊢
  clear h hp hb hE
  go_enter Tryd.func35, Tryd.ntmps35
  go_wp2_with (at_builtin; refine wpList_bytes isU8 _ rfl _ _ rfl w.heap.size 0 [] _ rfl (World.ownsRow_nil _ _ _ _) p l.length c l rfl H.out rfl (fun e => ⟨by rw [(HP.out e).1]; rfl, (HP.out e).2⟩) (by omega) (Nat.le_refl _) ?_)
  intro v w1 hown hb
  have hown1 : w1.ownsRow w.heap.size 5 1 v l.length (bys l) := by simpa using hown
  have O1 := Lib.hid hown1; have B1 := Lib.hid hb
  clear hown hown1 hb
  go_wp2_with fail
  refine (HB.out w1).mono ?_
  rintro e w2 ⟨v2, rfl, hown2, hb2⟩
  obtain ⟨_, p2, c2, rfl, _, _, lies2, none2⟩ := own_lies hown2
  have L2 := Lib.hid lies2; have N2 := Lib.hid none2; have O2 := Lib.hid (own_later O1.out hb2); have B2 := Lib.hid (thenBelow B1.out hb2)
  have S2 := B2.out.size
  clear hown2 hb2 lies2 none2
  go_wp2_with (at_builtin; refine wpList_bytes isU8 _ rfl _ _ rfl w.heap.size _ l _ rfl O2.out p2 E.length c2 E rfl L2.out rfl (fun e => ⟨by rw [(N2.out e).1]; rfl, (N2.out e).2⟩) (by omega) S2 ?_)
  intro v3 w3 hown3 hb3
  go_wp2
  go_ret
  exact RetOwn.of_own hown3 rfl (B2.out.trans hb3)
end Go.Proofs.YtldfomggeleolaaDoor
