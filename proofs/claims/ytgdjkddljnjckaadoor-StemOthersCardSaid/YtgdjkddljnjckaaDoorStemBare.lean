/- The contracts of stem's bare, Stem and Stop. -/
import Derived.Test.YtgdjkddljnjckaaDoorStemChange
namespace Go.Proofs.YtgdjkddljnjckaaDoor
open Go Go.RowKit
set_option linter.unusedVariables false

theorem chg2_letters (l : List UInt8) (h : l.all Stm.letter = true) : (Stm.chg 2 Stm.rows l).all Stm.letter = true := by
  rw [List.all_eq_true] at h ⊢
  rw [Stm.chg2]
  intro c hc
  split at hc
  · exact h c (List.mem_of_mem_take hc)
  · split at hc
    · exact h c (List.mem_of_mem_take hc)
    · exact h c hc
theorem chg2_le (l : List UInt8) : (Stm.chg 2 Stm.rows l).length ≤ l.length := by
  rw [Stm.chg2]
  split
  · rw [Stm.less_len]; omega
  · split
    · rw [Stm.less_len]; omega
    · omega
theorem last_is (t : ByteArray) (h : 1 ≤ t.size) : t.extract (t.size - 1) t.size = ⟨#[Stm.last t.data.toList]⟩ := by
  apply toList_ext
  rw [Lib.extract_data]
  show (t.data.toList.drop (t.size - 1)).take (t.size - (t.size - 1)) = [Stm.last t.data.toList]
  have hl := size_toList t
  have hlt : t.size - 1 < t.data.toList.length := by omega
  rw [List.drop_eq_getElem_cons hlt, List.drop_eq_nil_of_le (by omega), show t.size - (t.size - 1) = 1 from by omega]
  simp [Stm.last, hl, List.getD, List.getElem?_eq_getElem hlt]

set_option maxHeartbeats 4000000 in
theorem bare_is (s : ByteArray) (w : World) (hs : s.size ≤ 5000) (hp : Stm.plain s.data.toList = true) (hT : Ends w) :
    Calls Tryd.prog 12 #[.string s] w (Txt w (Stm.bare s.data.toList)) := by
  have hl4 := Stm.plain_len _ hp
  have hlen := Stm.chg2_len _ hl4
  have hle := chg2_le s.data.toList
  have hal := chg2_letters s.data.toList (by unfold Stm.plain at hp; simp only [Bool.and_eq_true] at hp; exact hp.1)
  rw [size_toList] at hl4 hle
  obtain ⟨R, hR⟩ : ∃ R, R = Stm.bare s.data.toList := ⟨_, rfl⟩
  rw [← hR]
  have HR : Hid (R = if Stm.chg 2 Stm.rows s.data.toList = s.data.toList ∨ Stm.some (Stm.chg 2 Stm.rows s.data.toList) = false then s.data.toList else Stm.cut (Stm.chg 2 Stm.rows s.data.toList)) := hR
  clear hR hp
  have CH := Lib.hid (change_is s 2 w hs hT)
  go_enter Tryd.func12, Tryd.ntmps12
  go_wp2_with fail
  refine CH.out.mono ?_
  rintro e w1 ⟨t, rfl, ht, hb1⟩
  rw [← ht] at hlen hle hal HR
  rw [size_toList] at hlen hle
  have B1 := Lib.hid hb1; have HA := Lib.hid hal
  clear CH hT ht hb1 hal
  by_cases h1 : t = s
  · subst h1
    have HN : Hid (R = t.data.toList) := by show R = _; rw [HR.out, if_pos (.inl rfl)]
    clear HR
    go_wp2
    go_ret
    exact ⟨t, rfl, HN.out.symm, B1.out⟩
  · have hne : (t.toList == s.toList) = false := by
      rw [beq_eq_false_iff_ne, Lib.toList_data, Lib.toList_data]
      intro h; exact h1 (toList_ext h)
    have HV := Lib.hid (containsVowel_is t w1 (by omega) HA.out)
    have HX : Hid (R = if Stm.some t.data.toList = false then s.data.toList else Stm.cut t.data.toList) := by
      show R = _
      rw [HR.out]
      have : ¬ t.data.toList = s.data.toList := fun h => h1 (toList_ext h)
      simp only [this, false_or]
    clear HR h1
    cases hv : Stm.some t.data.toList with
    | false =>
      rw [hv] at HV HX
      rw [if_pos rfl] at HX
      clear hv
      go_wp2_with fail
      refine HV.out.mono ?_
      rintro e w2 ⟨rfl, hb2⟩
      have B2 := Lib.hid (thenBelow B1.out hb2)
      clear HV hb2
      go_wp2
      go_ret
      exact ⟨s, rfl, HX.out.symm, B2.out⟩
    | true =>
      rw [hv] at HV HX
      rw [if_neg (fun h => Bool.noConfusion h)] at HX
      clear hv
      have hla := last_is t (by omega)
      obtain ⟨c, hc⟩ : ∃ c, c = Stm.last t.data.toList := ⟨_, rfl⟩
      have HC := Lib.hid hc
      rw [← hc] at hla
      clear hc
      go_wp2_with fail
      refine HV.out.mono ?_
      rintro e w2 ⟨rfl, hb2⟩
      have B2 := Lib.hid (thenBelow B1.out hb2)
      clear HV hb2
      have HS := hasSuffix_is t (⟨#[c]⟩ ++ ⟨#[c]⟩) w2 (by omega)
      rw [show ((⟨#[c]⟩ : ByteArray) ++ ⟨#[c]⟩).data.toList = [c, c] from by simp] at HS
      obtain ⟨E, hE⟩ : ∃ E, E = Stm.ends t.data.toList [c, c] := ⟨_, rfl⟩
      rw [← hE] at HS
      have HC2 := Lib.hid (containsOne_is ⟨#[97, 101, 105, 111, 117, 121, 108, 115, 122]⟩ c w2)
      obtain ⟨G, hG⟩ : ∃ G, G = (⟨#[97, 101, 105, 111, 117, 121, 108, 115, 122]⟩ : ByteArray).data.toList.contains c := ⟨_, rfl⟩
      rw [← hG] at HC2
      have HD : Hid (R = if (E && !G) = true then t.data.toList.take (t.size - 1) else t.data.toList) := by
        show R = _
        rw [HX.out, hE, hG]
        have := HC.out
        subst this
        unfold Stm.cut Stm.dbl
        rw [size_toList]
        rfl
      have HS := Lib.hid HS
      clear hE hG HC HX HA
      cases E with
      | false =>
        go_wp2_with fail
        refine HS.out.mono ?_
        rintro e w' ⟨rfl, rfl⟩
        clear HS HC2
        rw [Bool.false_and, if_neg (fun h => Bool.noConfusion h)] at HD
        go_wp2
        go_ret
        exact ⟨t, rfl, HD.out.symm, B2.out⟩
      | true =>
        rw [Bool.true_and] at HD
        go_wp2_with fail
        refine HS.out.mono ?_
        rintro e w' ⟨rfl, rfl⟩
        clear HS
        go_wp2_with fail
        refine HC2.out.mono ?_
        rintro e w' ⟨rfl, rfl⟩
        clear HC2
        cases G with
        | false =>
          rw [Bool.not_false, if_pos rfl] at HD
          go_wp2
          go_ret
          exact ⟨_, rfl, by rw [HD.out, Lib.extract_data]; simp, B2.out⟩
        | true =>
          rw [Bool.not_true, if_neg (fun h => Bool.noConfusion h)] at HD
          go_wp2
          go_ret
          exact ⟨t, rfl, HD.out.symm, B2.out⟩

theorem step_le (st : Int) (l : List UInt8) (h : Stm.plain l = true) : (Stm.step st l).length ≤ l.length := (Stm.step_keeps st l h).1

def runs : Nat → Nat → List UInt8 → List UInt8
  | 0, _, l => l
  | f + 1, k, l => if Stm.plain l = true then runs f (k + 1) (Stm.step (k : Int) l) else l
theorem stem_runs (l : List UInt8) : Stm.stem l = runs 3 1 l := rfl
theorem runs_no (f k : Nat) (l : List UInt8) (h : Stm.plain l = false) : runs f k l = l := by
  cases f with
  | zero => rfl
  | succ f => unfold runs; rw [h, if_neg Bool.false_ne_true]
theorem runs_yes (f k : Nat) (l : List UInt8) (h : Stm.plain l = true) : runs (f + 1) k l = runs f (k + 1) (Stm.step (k : Int) l) := by
  rw [runs, h, if_pos rfl]

set_option maxHeartbeats 4000000 in
theorem stem_is (s : ByteArray) (w : World) (hs : s.size ≤ 5000) (hT : Ends w) :
    Calls Tryd.prog 6 #[.string s] w (Txt w (Stm.stem s.data.toList)) := by
  have HT := Lib.hid hT
  obtain ⟨R, hR⟩ : ∃ R, R = Stm.stem s.data.toList := ⟨_, rfl⟩
  rw [← hR]
  rw [stem_runs] at hR
  have HR := Lib.hid hR
  clear hT hR
  go_enter Tryd.func6, Tryd.ntmps6
  go_wp2
  go_loopw [0, 3] (fun x i wr => ∃ (k f : Nat) (t : ByteArray), k + f = 4 ∧ 1 ≤ k ∧ i = .int .i64 k ∧ x = .string t ∧ t.size ≤ 5000 ∧ R = runs f k t.data.toList ∧ Below w.heap.size w wr) (fun _ i _ => 4 - (intOf i).toNat)
  case atStart => exact ⟨1, 3, s, rfl, Nat.le_refl _, rfl, rfl, hs, HR.out, Below.refl _ _⟩
  case round =>
    obtain ⟨k, f, t, hkf, hk, rfl, rfl, ht, hrest, hb⟩ := hrel
    have RE := Lib.hid hrest; have B := Lib.hid hb
    have T := Lib.hid (HT.out.below hb)
    clear hrest hb HR
    cases f with
    | zero =>
      obtain rfl : k = 4 := by omega
      go_wp2
      go_ret
      exact ⟨t, rfl, RE.out.symm, B.out⟩
    | succ f =>
      have hkk : (k : Int) ≤ 3 := by omega
      have HS := hasStem_is t wr (by omega)
      cases hp : Stm.plain t.data.toList with
      | false =>
        rw [hp] at HS
        have HN : Hid (R = t.data.toList) := by show R = _; rw [RE.out, runs_no _ _ _ hp]
        have HS := Lib.hid HS
        clear hp RE T
        go_wp2_with fail
        refine HS.out.mono ?_
        rintro e w' ⟨rfl, rfl⟩
        clear HS
        go_wp2
        go_ret
        exact ⟨t, rfl, HN.out.symm, B.out⟩
      | true =>
        rw [hp] at HS
        have HN : Hid (R = runs f (k + 1) (Stm.step (k : Int) t.data.toList)) := by show R = _; rw [RE.out, runs_yes _ _ _ hp]
        have HL := step_le (k : Int) _ hp
        rw [size_toList] at HL
        have HS := Lib.hid HS
        clear RE
        by_cases h2 : k = 2
        · subst h2
          have BA := Lib.hid (bare_is t wr ht hp T.out)
          have HN2 : Hid (R = runs f 3 (Stm.bare t.data.toList)) := HN.out
          have HL2 : (Stm.bare t.data.toList).length ≤ t.size := HL
          clear hp HN HL
          go_wp2_with fail
          refine HS.out.mono ?_
          rintro e w' ⟨rfl, rfl⟩
          clear HS
          go_wp2_with fail
          refine BA.out.mono ?_
          rintro e w2 ⟨t2, rfl, ht2, hb2⟩
          rw [← ht2] at HN2 HL2
          rw [size_toList] at HL2
          have B2 := Lib.hid (thenBelow B.out hb2)
          clear BA ht2 hb2
          go_wp2
          go_roundw
          case rel => exact ⟨3, f, t2, by omega, by omega, rfl, rfl, by omega, HN2.out, B2.out⟩
          case measure => simp [intOf]
        · have CH := Lib.hid (change_is t (k : Int) wr ht T.out)
          have h2' : ¬ (k : Int) = 2 := by omega
          have HE : Stm.step (k : Int) t.data.toList = Stm.chg (k : Int) Stm.rows t.data.toList := by unfold Stm.step; rw [if_neg h2']
          rw [HE] at HN HL
          clear hp HE
          go_wp2_with fail
          refine HS.out.mono ?_
          rintro e w' ⟨rfl, rfl⟩
          clear HS
          go_wp2_with fail
          refine CH.out.mono ?_
          rintro e w2 ⟨t2, rfl, ht2, hb2⟩
          rw [← ht2] at HN HL
          rw [size_toList] at HL
          have B2 := Lib.hid (thenBelow B.out hb2)
          clear CH ht2 hb2
          go_wp2
          go_roundw
          case rel => exact ⟨k + 1, f, t2, by omega, by omega, by go_num, rfl, by omega, HN.out, B2.out⟩
          case measure => simp [intOf]; omega

theorem str_eq (s t : ByteArray) : (s.toList == t.toList) = decide (s.data.toList = t.data.toList) := by
  rw [Lib.toList_data, Lib.toList_data, Bool.eq_iff_iff, beq_iff_eq, decide_eq_true_eq]
set_option maxHeartbeats 4000000 in
theorem stop_is (s : ByteArray) (w : World) : Calls Tryd.prog 8 #[.string s] w fun e w' => e = .returned (.bool (Stm.stop s.data.toList)) ∧ w = w' := by
  obtain ⟨l, hl⟩ : ∃ l, l = s.toList := ⟨_, rfl⟩
  have hl2 : s.data.toList = l := by rw [hl, Lib.toList_data]
  rw [hl2]
  go_enter Tryd.func8, Tryd.ntmps8
  go_wp2
  all_goals
    first
    | (go_ret
       refine ⟨ret_bool ?_, rfl⟩
       rw [hl]
       unfold Stm.stop Stm.stops
       simp_all; done)
end Go.Proofs.YtgdjkddljnjckaaDoor
