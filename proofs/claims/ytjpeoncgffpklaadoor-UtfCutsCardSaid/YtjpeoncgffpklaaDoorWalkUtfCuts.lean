/- The walk of UtfCuts. -/
import Derived.Test.YtjpeoncgffpklaaDoorUtfCut2
namespace Go.Proofs.YtjpeoncgffpklaaDoor
open Go Go.RowKit

theorem int_rangeU {n : Int} (h : (Lit.int .i64 n).wf = true) : -9223372036854775808 ≤ n ∧ n ≤ 9223372036854775807 := by
  simp [Lit.wf, IntKind.min, IntKind.max, IntKind.bits, IntKind.signed] at h; omega

set_option maxHeartbeats 2000000 in
set_option maxRecDepth 100000 in
theorem utfCuts_walk (s : ByteArray) (n : Int) (W : World) (hs : s.size ≤ 140737488351232) (hn : (Lit.int .i64 n).wf = true) (hT : Shapes W) :
    Calls Tryd.prog 7 #[.string s, .int .i64 n] W (Yes W) := by
  have hnr := int_rangeU hn
  have HT := Lib.hid hT
  clear hT hn
  by_cases hbig : s.size > 4096
  · go_enter Tryd.func7, Tryd.ntmps7
    go_wp2_with fail
    refine (awake3 W HT.out).mono ?_
    rintro e w' ⟨rfl, rfl⟩
    go_wp2_with fail
    go_ret
    exact ⟨rfl, Below.refl _ _⟩
  · have hcut := cut_is s n W hs hnr HT.out
    obtain ⟨hnr1, hnr2⟩ := hnr
    have HCUT := Lib.hid hcut
    clear hcut
    go_enter Tryd.func7, Tryd.ntmps7
    go_wp2_with fail
    refine HCUT.out.mono ?_
    rintro e w1 ⟨p, rfl, ⟨hp, hpn, ⟨f, hrc⟩, hend⟩, hb⟩
    have T1 := Lib.hid (HT.out.below hb)
    have hpre := prefix_is s p w1 hp hs
    have hv1 := valid_is s w1 hs T1.out
    have hcs := Utf.pre_size s p hp
    have hvp := Utf.valid_pre s p f hp hrc
    have hv2 := valid_is (s.extract 0 p) w1 (by omega) T1.out
    have haw := awake3 w1 T1.out
    have hc0 : Hid (p = 0 → s.extract 0 p = ⟨#[]⟩) := fun h => by
      subst h
      exact ByteArray.ext (Array.eq_empty_of_size_eq_zero hcs)
    have hv2' : Hid (Utf.valid s = true → Calls Tryd.prog 21 #[.string (s.extract 0 p)] w1 fun e w' => e = .returned (.bool true) ∧ w1 = w') := fun h => by
      rw [hvp h] at hv2; exact hv2
    have HPRE := Lib.hid hpre; have HV1 := Lib.hid hv1; have AW := Lib.hid haw; have HB := Lib.hid hb
    clear hpre hv1 hvp hv2 haw hb hrc HCUT
    obtain ⟨c, hc⟩ : ∃ c, c = s.extract 0 p := ⟨_, rfl⟩
    rw [← hc] at HPRE hv2' hc0 hcs ⊢
    clear hc
    rcases (show n < 0 ∨ 0 ≤ n by omega) with h0 | h0
    · have hp0 : p = 0 := by omega
      have hce := hc0.out hp0
      subst hce
      clear hc0 hcs hend hpn
      go_wp2_with fail
      refine HPRE.out.mono ?_
      rintro e w' ⟨rfl, rfl⟩
      clear HPRE
      go_wp2_with fail
      refine HV1.out.mono ?_
      rintro e w' ⟨rfl, rfl⟩
      cases hv : Utf.valid s with
      | false =>
        clear HV1 hv2' hv
        go_wp2_with fail
        refine AW.out.mono ?_
        rintro e w' ⟨rfl, rfl⟩
        go_wp2_with fail
        go_ret
        exact ⟨rfl, HB.out⟩
      | true =>
        have V2 := Lib.hid (hv2'.out hv)
        clear HV1 hv2' hv
        go_wp2_with fail
        refine V2.out.mono ?_
        rintro e w' ⟨rfl, rfl⟩
        go_wp2_with fail
        refine AW.out.mono ?_
        rintro e w' ⟨rfl, rfl⟩
        go_wp2_with fail
        go_ret
        exact ⟨rfl, HB.out⟩
    · have hpn' : (p : Int) ≤ n := by omega
      have hmax : max n 0 = n := by omega
      clear hc0 hpn
      rcases (show (s.size : Int) ≤ n ∨ n < s.size by omega) with h1 | h1
      all_goals
        have hge : (p : Int) ≥ (if n < s.size then n else s.size) - 3 := by split <;> omega
        go_wp2_with fail
        refine HPRE.out.mono ?_
        rintro e w' ⟨rfl, rfl⟩
        clear HPRE
        go_wp2_with fail
        refine HV1.out.mono ?_
        rintro e w' ⟨rfl, rfl⟩
        cases hv : Utf.valid s with
        | false =>
          clear HV1 hv2' hv
          go_wp2_with fail
          refine AW.out.mono ?_
          rintro e w' ⟨rfl, rfl⟩
          go_wp2_with fail
          go_ret
          exact ⟨rfl, HB.out⟩
        | true =>
          have V2 := Lib.hid (hv2'.out hv)
          clear HV1 hv2' hv
          go_wp2_with fail
          refine V2.out.mono ?_
          rintro e w' ⟨rfl, rfl⟩
          go_wp2_with fail
          refine AW.out.mono ?_
          rintro e w' ⟨rfl, rfl⟩
          go_wp2_with fail
          go_ret
          exact ⟨rfl, HB.out⟩
end Go.Proofs.YtjpeoncgffpklaaDoor
