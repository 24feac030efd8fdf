/- Contracts of the document's own steps: bare, first, Stop. -/
import Derived.Test.YtgdjkddljnjckaaDoorStemRef
import Derived.Outline
import Derived.Lib.Hide
import Derived.Great.Walk
import Derived.BigFrame
import Derived.Lib.QuietBelow
namespace Go.Proofs.YtgdjkddljnjckaaDoor
open Go Go.RowKit
set_option linter.unusedVariables false

theorem less_at (s : ByteArray) (m : Int) (n : Nat) (hm : m = n) (w : World) (hn : n ≤ s.size) (hs : s.size ≤ 140737488351232) : Calls Tryd.prog 23 #[.string s, .int .i64 m] w fun e w' => ∃ t : ByteArray, e = .returned (.string t) ∧ t.data.toList = Stm.less s.data.toList n ∧ w = w' := by
  subst hm; exact less_is s n w hn hs

set_option maxHeartbeats 4000000 in
theorem refFirst_is (s : ByteArray) (w : World) (hs : s.size ≤ 5000) (h4 : 4 ≤ s.size) :
    Calls Tryd.prog 15 #[.string s] w fun e w' => ∃ t : ByteArray, e = .returned (.string t) ∧ t.data.toList = Stm.first s.data.toList ∧ w = w' := by
  obtain ⟨R, hR⟩ : ∃ R, R = Stm.first s.data.toList := ⟨_, rfl⟩
  rw [← hR]
  unfold Stm.first at hR
  rw [size_toList] at hR
  have L1 := Lib.hid (less_at s 1 1 rfl w (by omega) (by omega)); have L2 := Lib.hid (less_at s 2 2 rfl w (by omega) (by omega)); have L3 := Lib.hid (less_at s 3 3 rfl w (by omega) (by omega))
  have F1 := ends_is s ⟨#[115, 115, 101, 115]⟩ w (by omega)
  obtain ⟨E1, hE1⟩ : ∃ E, E = Stm.ends s.data.toList [115, 115, 101, 115] := ⟨_, rfl⟩
  rw [show Stm.ends s.data.toList (⟨#[115, 115, 101, 115]⟩ : ByteArray).data.toList = E1 from hE1.symm] at F1
  rw [← hE1] at hR
  have F1 := Lib.hid F1
  clear hE1
  have F2 := ends_is s ⟨#[105, 101, 115]⟩ w (by omega)
  obtain ⟨E2, hE2⟩ : ∃ E, E = Stm.ends s.data.toList [105, 101, 115] := ⟨_, rfl⟩
  rw [show Stm.ends s.data.toList (⟨#[105, 101, 115]⟩ : ByteArray).data.toList = E2 from hE2.symm] at F2
  rw [← hE2] at hR
  have F2 := Lib.hid F2
  clear hE2
  have F3 := ends_is s ⟨#[115, 115]⟩ w (by omega)
  obtain ⟨E3, hE3⟩ : ∃ E, E = Stm.ends s.data.toList [115, 115] := ⟨_, rfl⟩
  rw [show Stm.ends s.data.toList (⟨#[115, 115]⟩ : ByteArray).data.toList = E3 from hE3.symm] at F3
  rw [← hE3] at hR
  have F3 := Lib.hid F3
  clear hE3
  have F4 := ends_is s ⟨#[117, 115]⟩ w (by omega)
  obtain ⟨E4, hE4⟩ : ∃ E, E = Stm.ends s.data.toList [117, 115] := ⟨_, rfl⟩
  rw [show Stm.ends s.data.toList (⟨#[117, 115]⟩ : ByteArray).data.toList = E4 from hE4.symm] at F4
  rw [← hE4] at hR
  have F4 := Lib.hid F4
  clear hE4
  have F5 := ends_is s ⟨#[105, 115]⟩ w (by omega)
  obtain ⟨E5, hE5⟩ : ∃ E, E = Stm.ends s.data.toList [105, 115] := ⟨_, rfl⟩
  rw [show Stm.ends s.data.toList (⟨#[105, 115]⟩ : ByteArray).data.toList = E5 from hE5.symm] at F5
  rw [← hE5] at hR
  have F5 := Lib.hid F5
  clear hE5
  have F6 := ends_is s ⟨#[115]⟩ w (by omega)
  obtain ⟨E6, hE6⟩ : ∃ E, E = Stm.ends s.data.toList [115] := ⟨_, rfl⟩
  rw [show Stm.ends s.data.toList (⟨#[115]⟩ : ByteArray).data.toList = E6 from hE6.symm] at F6
  rw [← hE6] at hR
  have F6 := Lib.hid F6
  clear hE6
  have HR := Lib.hid hR
  clear hR
  go_enter Tryd.func15, Tryd.ntmps15
  cases E1 with
  | true =>
    go_wp2_with fail
    refine F1.out.mono ?_
    rintro e w' ⟨rfl, rfl⟩
    clear F1
    go_wp2_with fail
    refine L2.out.mono ?_
    rintro e w' ⟨t, rfl, ht, rfl⟩
    have HT := Lib.hid ht
    clear ht
    go_wp2
    go_ret
    exact ⟨t, rfl, by rw [HR.out]; simp [HT.out, *], rfl⟩
  | false =>
    go_wp2_with fail
    refine F1.out.mono ?_
    rintro e w' ⟨rfl, rfl⟩
    clear F1
    cases E2 with
    | true =>
      go_wp2_with fail
      refine F2.out.mono ?_
      rintro e w' ⟨rfl, rfl⟩
      clear F2
      by_cases h5 : 4 < s.size
      · have h5' : (s.size : Int) > 4 := by omega
        go_wp2_with fail
        refine L3.out.mono ?_
        rintro e w' ⟨t, rfl, ht, rfl⟩
        have hts : t.size = s.size - 3 := by rw [← size_toList, ht, Stm.less_len, size_toList]
        have HT := Lib.hid ht
        clear ht
        go_wp2
        go_ret
        exact ⟨_, rfl, by rw [HR.out]; simp [HT.out, h5], rfl⟩
      · have h5' : ¬ (s.size : Int) > 4 := by omega
        cases E3 with
        | true =>
          go_wp2_with fail
          refine F3.out.mono ?_
          rintro e w' ⟨rfl, rfl⟩
          clear F3
          go_wp2
          go_ret
          exact ⟨s, rfl, by rw [HR.out]; simp [*], rfl⟩
        | false =>
          go_wp2_with fail
          refine F3.out.mono ?_
          rintro e w' ⟨rfl, rfl⟩
          clear F3
          cases E4 with
          | true =>
            go_wp2_with fail
            refine F4.out.mono ?_
            rintro e w' ⟨rfl, rfl⟩
            clear F4
            go_wp2
            go_ret
            exact ⟨s, rfl, by rw [HR.out]; simp [*], rfl⟩
          | false =>
            go_wp2_with fail
            refine F4.out.mono ?_
            rintro e w' ⟨rfl, rfl⟩
            clear F4
            cases E5 with
            | true =>
              go_wp2_with fail
              refine F5.out.mono ?_
              rintro e w' ⟨rfl, rfl⟩
              clear F5
              go_wp2
              go_ret
              exact ⟨s, rfl, by rw [HR.out]; simp [*], rfl⟩
            | false =>
              go_wp2_with fail
              refine F5.out.mono ?_
              rintro e w' ⟨rfl, rfl⟩
              clear F5
              cases E6 with
              | false =>
                go_wp2_with fail
                refine F6.out.mono ?_
                rintro e w' ⟨rfl, rfl⟩
                clear F6
                go_wp2
                go_ret
                exact ⟨s, rfl, by rw [HR.out]; simp [*], rfl⟩
              | true =>
                go_wp2_with fail
                refine F6.out.mono ?_
                rintro e w' ⟨rfl, rfl⟩
                clear F6
                go_wp2_with fail
                refine L1.out.mono ?_
                rintro e w' ⟨t, rfl, ht, rfl⟩
                have HT := Lib.hid ht
                clear ht
                go_wp2
                go_ret
                exact ⟨t, rfl, by rw [HR.out]; simp [HT.out, *], rfl⟩
    | false =>
      go_wp2_with fail
      refine F2.out.mono ?_
      rintro e w' ⟨rfl, rfl⟩
      clear F2
      cases E3 with
      | true =>
        go_wp2_with fail
        refine F3.out.mono ?_
        rintro e w' ⟨rfl, rfl⟩
        clear F3
        go_wp2
        go_ret
        exact ⟨s, rfl, by rw [HR.out]; simp [*], rfl⟩
      | false =>
        go_wp2_with fail
        refine F3.out.mono ?_
        rintro e w' ⟨rfl, rfl⟩
        clear F3
        cases E4 with
        | true =>
          go_wp2_with fail
          refine F4.out.mono ?_
          rintro e w' ⟨rfl, rfl⟩
          clear F4
          go_wp2
          go_ret
          exact ⟨s, rfl, by rw [HR.out]; simp [*], rfl⟩
        | false =>
          go_wp2_with fail
          refine F4.out.mono ?_
          rintro e w' ⟨rfl, rfl⟩
          clear F4
          cases E5 with
          | true =>
            go_wp2_with fail
            refine F5.out.mono ?_
            rintro e w' ⟨rfl, rfl⟩
            clear F5
            go_wp2
            go_ret
            exact ⟨s, rfl, by rw [HR.out]; simp [*], rfl⟩
          | false =>
            go_wp2_with fail
            refine F5.out.mono ?_
            rintro e w' ⟨rfl, rfl⟩
            clear F5
            cases E6 with
            | false =>
              go_wp2_with fail
              refine F6.out.mono ?_
              rintro e w' ⟨rfl, rfl⟩
              clear F6
              go_wp2
              go_ret
              exact ⟨s, rfl, by rw [HR.out]; simp [*], rfl⟩
            | true =>
              go_wp2_with fail
              refine F6.out.mono ?_
              rintro e w' ⟨rfl, rfl⟩
              clear F6
              go_wp2_with fail
              refine L1.out.mono ?_
              rintro e w' ⟨t, rfl, ht, rfl⟩
              have HT := Lib.hid ht
              clear ht
              go_wp2
              go_ret
              exact ⟨t, rfl, by rw [HR.out]; simp [HT.out, *], rfl⟩

set_option maxHeartbeats 4000000 in
theorem refBare_is (s : ByteArray) (n : Nat) (w : World) (hs : s.size ≤ 5000) (hn : n ≤ s.size) :
    Calls Tryd.prog 24 #[.string s, .int .i64 n] w fun e w' => ∃ t : ByteArray, e = .returned (.tuple #[.string t, .bool (Stm.okay s.data.toList n)]) ∧ t.data.toList = Stm.less s.data.toList n ∧ w = w' := by
  have HL := Lib.hid (less_is s n w hn (by omega))
  obtain ⟨R, hR⟩ : ∃ R, R = Stm.okay s.data.toList n := ⟨_, rfl⟩
  rw [← hR]
  unfold Stm.okay Stm.some at hR
  go_enter Tryd.func24, Tryd.ntmps24
  go_wp2_with fail
  refine HL.out.mono ?_
  rintro e w' ⟨t, rfl, ht, rfl⟩
  have hts : t.size = s.size - n := by rw [← size_toList, ht, Stm.less_len, size_toList]
  have HT := Lib.hid ht
  have htb : t.size ≤ 5000 := by omega
  clear hts
  rw [← ht] at hR
  rw [size_toList] at hR
  have HR := Lib.hid hR
  clear hR HL ht
  go_wp2
  go_loop [7, 14] (fun sm i => ∃ (p : Nat), p ≤ t.size ∧ i = .int .i64 p ∧ sm = .bool ((t.data.toList.take p).any fun c => Stm.vowels.contains c)) (fun _ i => t.size - (intOf i).toNat)
  case atStart => exact ⟨0, Nat.zero_le _, rfl, rfl⟩
  case round =>
    obtain ⟨p, hp, rfl, rfl⟩ := hrel
    by_cases hps : p < t.size
    · have hp' : (p : Int) < t.size := by omega
      have htk : (t.data.toList.take (p + 1)).any (fun c => Stm.vowels.contains c) = ((t.data.toList.take p).any (fun c => Stm.vowels.contains c) || Stm.vowels.contains t[p]) := by
        rw [tk t p hps, List.any_append]; simp
      have H1 := one_is t[p] ⟨#[97, 101, 105, 111, 117, 121]⟩ w (by decide)
      have HTK := Lib.hid htk
      have H1 : Hid (Calls Tryd.prog 25 #[.int .u8 (t[p].toNat : Int), .string ⟨#[97, 101, 105, 111, 117, 121]⟩] w fun x w' => x = .returned (.bool (Stm.vowels.contains t[p])) ∧ w = w') := H1
      clear htk
      obtain ⟨G, hG⟩ : ∃ G, G = Stm.vowels.contains t[p] := ⟨_, rfl⟩
      rw [← hG] at H1 HTK
      cases hA : (t.data.toList.take p).any fun c => Stm.vowels.contains c with
      | true =>
        rw [hA, Bool.true_or] at HTK
        clear H1 hG hA
        go_wp2
        go_round
        case rel => exact ⟨p + 1, by omega, by go_num, by rw [HTK.out]⟩
        case measure => simp [intOf]; omega
      | false =>
        rw [hA, Bool.false_or] at HTK
        clear hG hA
        go_wp2_with fail
        refine H1.out.mono ?_
        rintro e w' ⟨rfl, rfl⟩
        clear H1
        go_wp2
        go_round
        case rel => exact ⟨p + 1, by omega, by go_num, by rw [HTK.out]⟩
        case measure => simp [intOf]; omega
    · have hp' : ¬ (p : Int) < t.size := by omega
      rw [List.take_of_length_le (by rw [size_toList]; omega)]
      cases hA : t.data.toList.any fun c => Stm.vowels.contains c with
      | false =>
        rw [hA, Bool.false_and] at HR
        clear hA
        go_wp2
        go_ret2
        exact ⟨t, by rw [HR.out]; first | rfl | simp, HT.out, rfl⟩
      | true =>
        rw [hA, Bool.true_and] at HR
        clear hA
        by_cases h2 : 2 < t.size
        · have h2' : (t.size : Int) > 2 := by omega
          rw [decide_eq_true h2] at HR
          go_wp2
          go_ret2
          exact ⟨t, by rw [HR.out]; first | rfl | simp, HT.out, rfl⟩
        · have h2' : ¬ (t.size : Int) > 2 := by omega
          rw [decide_eq_false h2] at HR
          go_wp2
          go_ret2
          exact ⟨t, by rw [HR.out]; first | rfl | simp, HT.out, rfl⟩
theorem quiet_callS {P : Program} {w : World} {f : FuncId} {args : Array Value} {v : Value} (h : ∀ W, Calls P f args W fun e w' => e = .returned v ∧ Below W.heap.size W w') (d : Nat) (os : Array Obj) :
    Calls P f args (Sort.grow (redrawn w d) os) fun e w'' => e = .returned v ∧ ∃ p : Regrown, w'' = Sort.grow (redrawn w p.d) p.os := Calls.regrown_of (h _)
theorem okay_len (l : List UInt8) (n : Nat) (h : Stm.okay l n = true) : 2 < (Stm.less l n).length := by
  unfold Stm.okay at h; simp only [Bool.and_eq_true, decide_eq_true_eq] at h; exact h.2
theorem twin_is (t : ByteArray) (h : 2 < t.size) : Stm.twin t.data.toList = if (t[t.size - 1]'(by omega)) = (t[t.size - 2]'(by omega)) ∧ Stm.stay.contains (t[t.size - 1]'(by omega)) = false then Stm.less t.data.toList 1 else t.data.toList := by
  unfold Stm.twin Stm.last
  rw [size_toList, gd t (t.size - 1) (by omega), gd t (t.size - 2) (by omega)]
  rfl
set_option maxHeartbeats 4000000 in
theorem refSecond_is (s : ByteArray) (w : World) (hs : s.size ≤ 5000) (h4 : 4 ≤ s.size) :
    Calls Tryd.prog 16 #[.string s] w (Txt w (Stm.second s.data.toList)) := by
  obtain ⟨R, hR⟩ : ∃ R, R = Stm.second s.data.toList := ⟨_, rfl⟩
  rw [← hR]
  unfold Stm.second at hR
  have F1 := ends_is s ⟨#[105, 110, 103]⟩ w (by omega)
  obtain ⟨E1, hE1⟩ : ∃ E, E = Stm.ends s.data.toList [105, 110, 103] := ⟨_, rfl⟩
  rw [show Stm.ends s.data.toList (⟨#[105, 110, 103]⟩ : ByteArray).data.toList = E1 from hE1.symm] at F1
  rw [← hE1] at hR
  have F2 := ends_is s ⟨#[101, 100]⟩ w (by omega)
  obtain ⟨E2, hE2⟩ : ∃ E, E = Stm.ends s.data.toList [101, 100] := ⟨_, rfl⟩
  rw [show Stm.ends s.data.toList (⟨#[101, 100]⟩ : ByteArray).data.toList = E2 from hE2.symm] at F2
  rw [← hE2] at hR
  have B3 := refBare_is s 3 w hs (by omega)
  have B2 := refBare_is s 2 w hs (by omega)
  have K3 := okay_len s.data.toList 3
  have K2 := okay_len s.data.toList 2
  obtain ⟨O3, hO3⟩ : ∃ O, O = Stm.okay s.data.toList 3 := ⟨_, rfl⟩
  obtain ⟨O2, hO2⟩ : ∃ O, O = Stm.okay s.data.toList 2 := ⟨_, rfl⟩
  rw [← hO3] at B3 K3 hR
  rw [← hO2] at B2 K2 hR
  have C3 := Lib.hid B3; have C2 := Lib.hid B2; have J3 := Lib.hid K3; have J2 := Lib.hid K2; have D1 := Lib.hid F1; have D2 := Lib.hid F2
  have HR := Lib.hid hR
  clear hE1 hE2 hO3 hO2 hR F1 F2 B3 B2 K3 K2
  go_enter Tryd.func16, Tryd.ntmps16
  cases E1 with
  | true =>
    go_wp2_with fail
    refine D1.out.mono ?_
    rintro e w' ⟨rfl, rfl⟩
    clear D1
    go_wp2_with fail
    refine C3.out.mono ?_
    rintro e w' ⟨t, rfl, ht, rfl⟩
    have HT := Lib.hid ht
    clear C3
    cases O3 with
    | true =>
      have hlen := J3.out rfl
      rw [← ht, size_toList] at hlen
      have htb : t.size ≤ 5000 := by rw [← size_toList, ht, Stm.less_len, size_toList]; omega
      have HV : Hid (R = Stm.twin t.data.toList) := by show R = _; rw [HR.out, HT.out]; simp
      have HW := Lib.hid (twin_is t hlen)
      clear ht HR HT J3
      have hw1 : IntKind.i64.wrap ((t.size : Int) - 1) = (t.size : Int) - 1 := by simp [IntKind.wrap, IntKind.bits, IntKind.signed]; omega
      have hw2 : IntKind.i64.wrap ((t.size : Int) - 2) = (t.size : Int) - 2 := by simp [IntKind.wrap, IntKind.bits, IntKind.signed]; omega
      have q1 : (1 : Int) ≤ t.size := by omega
      have q2 : (t.size : Int) - 1 < t.size := by omega
      have q3 : (2 : Int) ≤ t.size := by omega
      have q4 : (t.size : Int) - 2 < t.size := by omega
      obtain ⟨c, hc⟩ : ∃ c, c = t[t.size - 1]'(by omega) := ⟨_, rfl⟩
      obtain ⟨d, hd⟩ : ∃ d, d = t[((t.size : Int) - 2).toNat]'(by omega) := ⟨_, rfl⟩
      have hc' := hc.symm
      have hd' := hd.symm
      have HC := Lib.hid hc'
      have HD : Hid (t[t.size - 2]'(by omega) = d) := by
        show t[t.size - 2]'(by omega) = d
        rw [hd]
        congr 1
        omega
      clear hc hd
      have HV2 : Hid (R = if c = d ∧ Stm.stay.contains c = false then Stm.less t.data.toList 1 else t.data.toList) := by show R = _; rw [HV.out, HW.out, HC.out, HD.out]
      clear HV HW
      have cO := quiet_callS (w := w) (fun W => (one_is c ⟨#[97, 101, 105, 111, 117, 121, 108, 115, 122]⟩ W (by decide)).mono fun e w' ⟨h1, h2⟩ => ⟨h1, h2 ▸ Below.refl _ _⟩)
      obtain ⟨G, hG⟩ : ∃ G, G = Stm.stay.contains c := ⟨_, rfl⟩
      have cO' : ∀ (d : Nat) (os : Array Obj), Calls Tryd.prog 25 #[.int .u8 (c.toNat : Int), .string ⟨#[97, 101, 105, 111, 117, 121, 108, 115, 122]⟩] (Sort.grow (redrawn w d) os) fun e w'' => e = .returned (.bool G) ∧ ∃ p : Regrown, w'' = Sort.grow (redrawn w p.d) p.os := by rw [hG]; exact cO
      have cO := Lib.hid cO'
      rw [← hG] at HV2
      clear hG cO'
      by_cases hcd : c = d
      · subst hcd
        go_wp2_with fail
        refine wp_region_quiet_below (by kernel_rfl) (by kernel_rfl) ?_
        iterate 14 (quiet_step (fail))
        quiet_step (exact cO.out _ _)
        repeat (quiet_step (fail))
        refine wpQuiet_nil ?_
        rintro _ ⟨⟨dq, osq⟩, rfl⟩
        have B := Lib.hid (below_regrown w dq osq)
        generalize Sort.grow (redrawn w dq) osq = wq at B ⊢
        cases G with
        | false =>
          rw [if_pos (by simp)] at HV2
          have L1 := Lib.hid (less_at t 1 1 rfl wq (by omega) (by omega))
          clear cO
          go_wp2_with fail
          refine L1.out.mono ?_
          rintro e w' ⟨u, rfl, hu, rfl⟩
          have HU := Lib.hid hu
          clear L1 hu
          go_wp2_with fail
          go_ret
          exact ⟨u, rfl, by rw [HU.out, HV2.out], B.out⟩
        | true =>
          rw [if_neg (fun h => Bool.noConfusion h.2)] at HV2
          clear cO
          go_wp2_with fail
          go_ret
          exact ⟨t, rfl, HV2.out.symm, B.out⟩
      · have hx : ¬ (c.toNat : Int) = (d.toNat : Int) := fun h => hcd (UInt8.toNat_inj.1 (by omega))
        rw [if_neg (fun h => hcd h.1)] at HV2
        clear hcd
        go_wp2_with fail
        refine wp_region_quiet_below (by kernel_rfl) (by kernel_rfl) ?_
        repeat (quiet_step (fail))
        refine wpQuiet_nil ?_
        rintro _ ⟨⟨dq, osq⟩, rfl⟩
        have B := Lib.hid (below_regrown w dq osq)
        generalize Sort.grow (redrawn w dq) osq = wq at B ⊢
        clear cO
        go_wp2_with fail
        go_ret
        exact ⟨t, rfl, HV2.out.symm, B.out⟩
    | false =>
      clear ht HT
      cases E2 with
      | true =>
        go_wp2_with fail
        refine D2.out.mono ?_
        rintro e w' ⟨rfl, rfl⟩
        clear D2
        go_wp2_with fail
        refine C2.out.mono ?_
        rintro e w' ⟨t, rfl, ht, rfl⟩
        have HT := Lib.hid ht
        clear C2
        cases O2 with
        | true =>
          have hlen := J2.out rfl
          rw [← ht, size_toList] at hlen
          have htb : t.size ≤ 5000 := by rw [← size_toList, ht, Stm.less_len, size_toList]; omega
          have HV : Hid (R = Stm.twin t.data.toList) := by show R = _; rw [HR.out, HT.out]; simp
          have HW := Lib.hid (twin_is t hlen)
          clear ht HR HT J2
          have hw1 : IntKind.i64.wrap ((t.size : Int) - 1) = (t.size : Int) - 1 := by simp [IntKind.wrap, IntKind.bits, IntKind.signed]; omega
          have hw2 : IntKind.i64.wrap ((t.size : Int) - 2) = (t.size : Int) - 2 := by simp [IntKind.wrap, IntKind.bits, IntKind.signed]; omega
          have q1 : (1 : Int) ≤ t.size := by omega
          have q2 : (t.size : Int) - 1 < t.size := by omega
          have q3 : (2 : Int) ≤ t.size := by omega
          have q4 : (t.size : Int) - 2 < t.size := by omega
          obtain ⟨c, hc⟩ : ∃ c, c = t[t.size - 1]'(by omega) := ⟨_, rfl⟩
          obtain ⟨d, hd⟩ : ∃ d, d = t[((t.size : Int) - 2).toNat]'(by omega) := ⟨_, rfl⟩
          have hc' := hc.symm
          have hd' := hd.symm
          have HC := Lib.hid hc'
          have HD : Hid (t[t.size - 2]'(by omega) = d) := by
            show t[t.size - 2]'(by omega) = d
            rw [hd]
            congr 1
            omega
          clear hc hd
          have HV2 : Hid (R = if c = d ∧ Stm.stay.contains c = false then Stm.less t.data.toList 1 else t.data.toList) := by show R = _; rw [HV.out, HW.out, HC.out, HD.out]
          clear HV HW
          have cO := quiet_callS (w := w) (fun W => (one_is c ⟨#[97, 101, 105, 111, 117, 121, 108, 115, 122]⟩ W (by decide)).mono fun e w' ⟨h1, h2⟩ => ⟨h1, h2 ▸ Below.refl _ _⟩)
          obtain ⟨G, hG⟩ : ∃ G, G = Stm.stay.contains c := ⟨_, rfl⟩
          have cO' : ∀ (d : Nat) (os : Array Obj), Calls Tryd.prog 25 #[.int .u8 (c.toNat : Int), .string ⟨#[97, 101, 105, 111, 117, 121, 108, 115, 122]⟩] (Sort.grow (redrawn w d) os) fun e w'' => e = .returned (.bool G) ∧ ∃ p : Regrown, w'' = Sort.grow (redrawn w p.d) p.os := by rw [hG]; exact cO
          have cO := Lib.hid cO'
          rw [← hG] at HV2
          clear hG cO'
          by_cases hcd : c = d
          · subst hcd
            go_wp2_with fail
            refine wp_region_quiet_below (by kernel_rfl) (by kernel_rfl) ?_
            iterate 14 (quiet_step (fail))
            quiet_step (exact cO.out _ _)
            repeat (quiet_step (fail))
            refine wpQuiet_nil ?_
            rintro _ ⟨⟨dq, osq⟩, rfl⟩
            have B := Lib.hid (below_regrown w dq osq)
            generalize Sort.grow (redrawn w dq) osq = wq at B ⊢
            cases G with
            | false =>
              rw [if_pos (by simp)] at HV2
              have L1 := Lib.hid (less_at t 1 1 rfl wq (by omega) (by omega))
              clear cO
              go_wp2_with fail
              refine L1.out.mono ?_
              rintro e w' ⟨u, rfl, hu, rfl⟩
              have HU := Lib.hid hu
              clear L1 hu
              go_wp2_with fail
              go_ret
              exact ⟨u, rfl, by rw [HU.out, HV2.out], B.out⟩
            | true =>
              rw [if_neg (fun h => Bool.noConfusion h.2)] at HV2
              clear cO
              go_wp2_with fail
              go_ret
              exact ⟨t, rfl, HV2.out.symm, B.out⟩
          · have hx : ¬ (c.toNat : Int) = (d.toNat : Int) := fun h => hcd (UInt8.toNat_inj.1 (by omega))
            rw [if_neg (fun h => hcd h.1)] at HV2
            clear hcd
            go_wp2_with fail
            refine wp_region_quiet_below (by kernel_rfl) (by kernel_rfl) ?_
            repeat (quiet_step (fail))
            refine wpQuiet_nil ?_
            rintro _ ⟨⟨dq, osq⟩, rfl⟩
            have B := Lib.hid (below_regrown w dq osq)
            generalize Sort.grow (redrawn w dq) osq = wq at B ⊢
            clear cO
            go_wp2_with fail
            go_ret
            exact ⟨t, rfl, HV2.out.symm, B.out⟩
        | false =>
          clear ht HT
          go_wp2_with fail
          go_ret
          exact ⟨s, rfl, by rw [HR.out]; simp, Below.refl _ _⟩
      | false =>
        go_wp2_with fail
        refine D2.out.mono ?_
        rintro e w' ⟨rfl, rfl⟩
        clear D2
        go_wp2_with fail
        go_ret
        exact ⟨s, rfl, by rw [HR.out]; simp, Below.refl _ _⟩
  | false =>
    go_wp2_with fail
    refine D1.out.mono ?_
    rintro e w' ⟨rfl, rfl⟩
    clear D1
    cases E2 with
    | true =>
      go_wp2_with fail
      refine D2.out.mono ?_
      rintro e w' ⟨rfl, rfl⟩
      clear D2
      go_wp2_with fail
      refine C2.out.mono ?_
      rintro e w' ⟨t, rfl, ht, rfl⟩
      have HT := Lib.hid ht
      clear C2
      cases O2 with
      | true =>
        have hlen := J2.out rfl
        rw [← ht, size_toList] at hlen
        have htb : t.size ≤ 5000 := by rw [← size_toList, ht, Stm.less_len, size_toList]; omega
        have HV : Hid (R = Stm.twin t.data.toList) := by show R = _; rw [HR.out, HT.out]; simp
        have HW := Lib.hid (twin_is t hlen)
        clear ht HR HT J2
        have hw1 : IntKind.i64.wrap ((t.size : Int) - 1) = (t.size : Int) - 1 := by simp [IntKind.wrap, IntKind.bits, IntKind.signed]; omega
        have hw2 : IntKind.i64.wrap ((t.size : Int) - 2) = (t.size : Int) - 2 := by simp [IntKind.wrap, IntKind.bits, IntKind.signed]; omega
        have q1 : (1 : Int) ≤ t.size := by omega
        have q2 : (t.size : Int) - 1 < t.size := by omega
        have q3 : (2 : Int) ≤ t.size := by omega
        have q4 : (t.size : Int) - 2 < t.size := by omega
        obtain ⟨c, hc⟩ : ∃ c, c = t[t.size - 1]'(by omega) := ⟨_, rfl⟩
        obtain ⟨d, hd⟩ : ∃ d, d = t[((t.size : Int) - 2).toNat]'(by omega) := ⟨_, rfl⟩
        have hc' := hc.symm
        have hd' := hd.symm
        have HC := Lib.hid hc'
        have HD : Hid (t[t.size - 2]'(by omega) = d) := by
          show t[t.size - 2]'(by omega) = d
          rw [hd]
          congr 1
          omega
        clear hc hd
        have HV2 : Hid (R = if c = d ∧ Stm.stay.contains c = false then Stm.less t.data.toList 1 else t.data.toList) := by show R = _; rw [HV.out, HW.out, HC.out, HD.out]
        clear HV HW
        have cO := quiet_callS (w := w) (fun W => (one_is c ⟨#[97, 101, 105, 111, 117, 121, 108, 115, 122]⟩ W (by decide)).mono fun e w' ⟨h1, h2⟩ => ⟨h1, h2 ▸ Below.refl _ _⟩)
        obtain ⟨G, hG⟩ : ∃ G, G = Stm.stay.contains c := ⟨_, rfl⟩
        have cO' : ∀ (d : Nat) (os : Array Obj), Calls Tryd.prog 25 #[.int .u8 (c.toNat : Int), .string ⟨#[97, 101, 105, 111, 117, 121, 108, 115, 122]⟩] (Sort.grow (redrawn w d) os) fun e w'' => e = .returned (.bool G) ∧ ∃ p : Regrown, w'' = Sort.grow (redrawn w p.d) p.os := by rw [hG]; exact cO
        have cO := Lib.hid cO'
        rw [← hG] at HV2
        clear hG cO'
        by_cases hcd : c = d
        · subst hcd
          go_wp2_with fail
          refine wp_region_quiet_below (by kernel_rfl) (by kernel_rfl) ?_
          iterate 14 (quiet_step (fail))
          quiet_step (exact cO.out _ _)
          repeat (quiet_step (fail))
          refine wpQuiet_nil ?_
          rintro _ ⟨⟨dq, osq⟩, rfl⟩
          have B := Lib.hid (below_regrown w dq osq)
          generalize Sort.grow (redrawn w dq) osq = wq at B ⊢
          cases G with
          | false =>
            rw [if_pos (by simp)] at HV2
            have L1 := Lib.hid (less_at t 1 1 rfl wq (by omega) (by omega))
            clear cO
            go_wp2_with fail
            refine L1.out.mono ?_
            rintro e w' ⟨u, rfl, hu, rfl⟩
            have HU := Lib.hid hu
            clear L1 hu
            go_wp2_with fail
            go_ret
            exact ⟨u, rfl, by rw [HU.out, HV2.out], B.out⟩
          | true =>
            rw [if_neg (fun h => Bool.noConfusion h.2)] at HV2
            clear cO
            go_wp2_with fail
            go_ret
            exact ⟨t, rfl, HV2.out.symm, B.out⟩
        · have hx : ¬ (c.toNat : Int) = (d.toNat : Int) := fun h => hcd (UInt8.toNat_inj.1 (by omega))
          rw [if_neg (fun h => hcd h.1)] at HV2
          clear hcd
          go_wp2_with fail
          refine wp_region_quiet_below (by kernel_rfl) (by kernel_rfl) ?_
          repeat (quiet_step (fail))
          refine wpQuiet_nil ?_
          rintro _ ⟨⟨dq, osq⟩, rfl⟩
          have B := Lib.hid (below_regrown w dq osq)
          generalize Sort.grow (redrawn w dq) osq = wq at B ⊢
          clear cO
          go_wp2_with fail
          go_ret
          exact ⟨t, rfl, HV2.out.symm, B.out⟩
      | false =>
        clear ht HT
        go_wp2_with fail
        go_ret
        exact ⟨s, rfl, by rw [HR.out]; simp, Below.refl _ _⟩
    | false =>
      go_wp2_with fail
      refine D2.out.mono ?_
      rintro e w' ⟨rfl, rfl⟩
      clear D2
      go_wp2_with fail
      go_ret
      exact ⟨s, rfl, by rw [HR.out]; simp, Below.refl _ _⟩
end Go.Proofs.YtgdjkddljnjckaaDoor
