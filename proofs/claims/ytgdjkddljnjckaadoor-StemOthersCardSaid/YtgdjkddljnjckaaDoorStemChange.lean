/- The contract of stem's change: what a step makes of a word, by the table of ends. -/
import Derived.Test.YtgdjkddljnjckaaDoorStemLays
import Derived.Test.YtgdjkddljnjckaaDoorStemRef
import Derived.Outline
import Derived.Lib.Hide
namespace Go.Proofs.YtgdjkddljnjckaaDoor
open Go Go.RowKit
set_option linter.unusedVariables false

theorem cutSuffix_is (s p : ByteArray) (w : World) (hs : s.size ≤ 140737488351232) : Calls Tryd.prog 21 #[.string s, .string p] w fun e w' => ∃ t : ByteArray, e = .returned (.tuple #[.string t, .bool (Stm.ends s.data.toList p.data.toList)]) ∧ t.data.toList = Lib.trimSuffix s.data.toList p.data.toList ∧ w = w' :=
  (Any.strings_CutSuffix Tryd.lays104 s p w (by omega)).mono fun e w' ⟨h1, h2⟩ => ⟨_, h1, rfl, h2.symm⟩
theorem hasSuffix_is (s p : ByteArray) (w : World) (hs : s.size ≤ 140737488351232) : Calls Tryd.prog 19 #[.string s, .string p] w fun e w' => e = .returned (.bool (Stm.ends s.data.toList p.data.toList)) ∧ w = w' :=
  (Any.strings_HasSuffix Tryd.lays100 s p w (by omega)).mono fun e w' ⟨h1, h2⟩ => ⟨h1, h2.symm⟩
theorem indexByte_mem (c : UInt8) : ∀ l : List UInt8, -1 ≤ Lib.indexByte l c ∧ (0 ≤ Lib.indexByte l c ↔ c ∈ l)
  | [] => by simp [Lib.indexByte]
  | b :: l => by
    obtain ⟨h1, h2⟩ := indexByte_mem c l
    unfold Lib.indexByte
    by_cases hb : b = c
    · subst hb; simp
    · rw [if_neg (by simpa using hb)]
      by_cases hm : Lib.indexByte l c = -1
      · rw [if_pos (by simpa using hm)]
        have : ¬ c ∈ l := fun h => by have := h2.2 h; omega
        simp [this, show ¬ c = b from fun h => hb h.symm]
      · rw [if_neg (by simpa using hm)]
        have : c ∈ l := h2.1 (by omega)
        simp [this]; omega
theorem containsOne_is (s : ByteArray) (c : UInt8) (w : World) : Calls Tryd.prog 20 #[.string s, .string ⟨#[c]⟩] w fun e w' => e = .returned (.bool (s.data.toList.contains c)) ∧ w = w' := by
  have h := Any.strings_Contains_one Tryd.lays144 s c w
  rw [show decide (0 ≤ Lib.indexByte s.data.toList c) = s.data.toList.contains c from by
    rw [Bool.eq_iff_iff, decide_eq_true_eq, List.contains_iff_mem]; exact (indexByte_mem c _).2] at h
  exact h.mono fun e w' ⟨h1, h2⟩ => ⟨h1, h2.symm⟩
theorem indexAny_mem (chars : List UInt8) : ∀ l : List UInt8, -1 ≤ Lib.indexAny l chars ∧ decide (0 ≤ Lib.indexAny l chars) = l.any fun c => chars.contains c
  | [] => by simp [Lib.indexAny]
  | b :: l => by
    obtain ⟨h1, h2⟩ := indexAny_mem chars l
    unfold Lib.indexAny
    rw [List.any_cons, ← h2]
    by_cases hb : chars.contains b = true
    · rw [if_pos hb, hb]; simp
    · rw [if_neg hb, show chars.contains b = false from by simpa using hb]
      by_cases hm : Lib.indexAny l chars = -1
      · rw [if_pos (by simpa using hm), hm]; simp
      · rw [if_neg (by simpa using hm)]
        refine ⟨by omega, ?_⟩
        rw [Bool.false_or]; apply decide_eq_decide.2; omega
theorem containsVowel_is (s : ByteArray) (w : World) (hs : s.size ≤ 5000) (ha : s.data.toList.all Stm.letter = true) :
    Calls Tryd.prog 18 #[.string s, .string ⟨#[97, 101, 105, 111, 117, 121]⟩] w fun e w' => e = .returned (.bool (Stm.some s.data.toList)) ∧ Below w.heap.size w w' := by
  have h := Any.strings_ContainsAny_laid Tryd.lays150 (by kernel_rfl) s ⟨#[97, 101, 105, 111, 117, 121]⟩ w (by omega) (by decide)
    (fun j b hb => by
      have hm : b ∈ s.data.toList := List.mem_of_getElem? hb
      have := List.all_eq_true.1 ha b hm
      unfold Stm.letter at this
      simp only [Bool.and_eq_true, decide_eq_true_eq] at this
      omega)
    (fun j b hb => by
      have hm : b ∈ ([97, 101, 105, 111, 117, 121] : List UInt8) := List.mem_of_getElem? hb
      exact (show ∀ b ∈ ([97, 101, 105, 111, 117, 121] : List UInt8), b.toNat < 128 by decide) b hm)
  rw [show Lib.containsAny s.data.toList (⟨#[97, 101, 105, 111, 117, 121]⟩ : ByteArray).data.toList = Stm.some s.data.toList from (indexAny_mem _ _).2] at h
  exact h

instance : Inhabited Stm.Row := ⟨⟨0, [], 0, []⟩⟩
def rowVals (r : Stm.Row) : List Value := [.int .i64 r.step, .string ⟨r.fin.toArray⟩, .int .i64 (r.ahead : Int), .string ⟨r.put.toArray⟩]
/-- the table of ends lies behind its variable -/
def Ends (w : World) : Prop :=
  ∃ b o c, w.cell? ⟨0, 0, none⟩ = some (.slice (some ⟨b, o, none⟩) 15 c) ∧ 15 ≤ c ∧ ∀ i, i < 15 → ∀ j, j < 4 → w.cell? ⟨b, o + (i * 4 + j), none⟩ = (rowVals (Stm.rows.getD i default))[j]?
theorem Ends.below {w w' : World} (h : Ends w) (hb : Below w.heap.size w w') : Ends w' := by
  obtain ⟨b, o, c, h1, h2, h3⟩ := h
  refine ⟨b, o, c, by rw [hb.cell (p := ⟨0, 0, none⟩) (World.block_lt_of_cell? w _ h1)]; exact h1, h2, fun i hi j hj => ?_⟩
  have := h3 i hi j hj
  have hex : ∃ u, (rowVals (Stm.rows.getD i default))[j]? = some u := ⟨_, List.getElem?_eq_getElem (by simpa [rowVals] using hj)⟩
  obtain ⟨u, hu⟩ := hex
  rw [hu] at this
  rw [hb.cell (p := ⟨b, o + (i * 4 + j), none⟩) (World.block_lt_of_cell? w _ this), hu]; exact this
theorem row_small : ∀ i, i < 15 → (Stm.rows.getD i default).put.length ≤ 10 ∧ (Stm.rows.getD i default).fin.length ≤ 10 ∧ (Stm.rows.getD i default).ahead ≤ 3 := by decide
theorem chg_step (st : Int) (i : Nat) (hi : i < 15) (l : List UInt8) : Stm.chg st (Stm.rows.drop i) l =
    if (Stm.rows.getD i default).step = st ∧ Stm.hit (Stm.rows.getD i default) l = true then Stm.did (Stm.rows.getD i default) l else Stm.chg st (Stm.rows.drop (i + 1)) l := by
  have hi' : i < Stm.rows.length := hi
  rw [List.drop_eq_getElem_cons hi']
  have : Stm.rows.getD i default = Stm.rows[i] := by simp [List.getD, List.getElem?_eq_getElem hi']
  rw [this]; rfl

set_option maxHeartbeats 4000000 in
theorem change_is (s : ByteArray) (st : Int) (w : World) (hs : s.size ≤ 5000) (hT : Ends w) :
    Calls Tryd.prog 13 #[.string s, .int .i64 st] w (Txt w (Stm.chg st Stm.rows s.data.toList)) := by
  obtain ⟨R, hR⟩ : ∃ R, R = Stm.chg st Stm.rows s.data.toList := ⟨_, rfl⟩
  rw [← hR]
  have HR : Hid (R = Stm.chg st (Stm.rows.drop 0) s.data.toList) := hR
  clear hR
  obtain ⟨b, o, c, hg, hc, hcells⟩ := hT
  have HC := Lib.hid hcells
  clear hcells
  go_enter Tryd.func13, Tryd.ntmps13
  go_wp2
  go_loopw [11] (fun i wr => ∃ k : Nat, k ≤ 15 ∧ i = .int .i64 k ∧ Below w.heap.size w wr ∧ R = Stm.chg st (Stm.rows.drop k) s.data.toList) (fun i _ => 15 - (intOf i).toNat)
  case atStart => exact ⟨0, Nat.zero_le _, rfl, Below.refl _ _, HR.out⟩
  case round =>
    obtain ⟨k, hk, rfl, hb, hrest⟩ := hrel
    have HR := Lib.hid hrest; clear hrest
    have hsz := hb.size
    by_cases hk15 : k < 15
    · have hst := chg_step st k hk15 s.data.toList
      have hrow := row_small k hk15
      have hcell : ∀ j, j < 4 → wr.cell? ⟨b, o + (k * 4 + j), none⟩ = (rowVals (Stm.rows.getD k default))[j]? := fun j hj => by
        have := HC.out k hk15 j hj
        obtain ⟨u, hu⟩ : ∃ u, (rowVals (Stm.rows.getD k default))[j]? = some u := ⟨_, List.getElem?_eq_getElem (by simpa [rowVals] using hj)⟩
        rw [hu] at this
        rw [hb.cell (p := ⟨b, o + (k * 4 + j), none⟩) (World.block_lt_of_cell? w _ this), hu]; exact this
      simp only [← Nat.add_assoc] at hcell
      have q0 := hcell 0 (by omega); rw [Nat.add_zero] at q0; have q1 := hcell 1 (by omega); have q2 := hcell 2 (by omega); have q3 := hcell 3 (by omega)
      clear hcell
      obtain ⟨r, hr⟩ : ∃ r, r = Stm.rows.getD k default := ⟨_, rfl⟩
      rw [← hr] at hst hrow q0 q1 q2 q3
      clear hr
      simp only [rowVals, List.getElem?_cons_zero, List.getElem?_cons_succ] at q0 q1 q2 q3
      obtain ⟨f, hf⟩ : ∃ f : ByteArray, f = ⟨r.fin.toArray⟩ := ⟨_, rfl⟩
      obtain ⟨g, hgg⟩ : ∃ g : ByteArray, g = ⟨r.put.toArray⟩ := ⟨_, rfl⟩
      rw [← hf] at q1; rw [← hgg] at q3
      have hfl : f.data.toList = r.fin := by rw [hf]
      have hgl : g.data.toList = r.put := by rw [hgg]
      have hfs : f.size = r.fin.length := by rw [← size_toList, hfl]
      have hgs : g.size = r.put.length := by rw [← size_toList, hgl]
      clear hf hgg
      have CS := cutSuffix_is s f
      have hhit : Stm.hit r s.data.toList = (Stm.ends s.data.toList f.data.toList && decide (r.ahead ≤ s.size - f.size)) := by
        unfold Stm.hit; rw [hfs, ← size_toList, hfl]; rfl
      have hdid : Stm.did r s.data.toList = s.data.toList.take (s.size - f.size) ++ g.data.toList := by
        unfold Stm.did; rw [hfs, hgl, ← size_toList]
      rw [hhit, hdid] at hst
      have htr : ∀ t : ByteArray, t.data.toList = Lib.trimSuffix s.data.toList f.data.toList → Stm.ends s.data.toList f.data.toList = true → t.data.toList = s.data.toList.take (s.size - f.size) ∧ t.size = s.size - f.size ∧ f.size ≤ s.size := by
        intro t ht he
        have hle := Stm.len_of_ends _ _ he
        rw [size_toList, size_toList] at hle
        unfold Lib.trimSuffix at ht
        rw [show Lib.hasSuffix s.data.toList f.data.toList = true from he, if_pos rfl, size_toList, size_toList] at ht
        exact ⟨ht, by rw [← size_toList, ht, List.length_take, size_toList]; omega, hle⟩
      obtain ⟨z1, z2, z3⟩ := hrow
      have HST := Lib.hid hst; have HTR := Lib.hid htr
      clear hst hhit hdid hfl hgl htr
      obtain ⟨E, hE⟩ : ∃ E, E = Stm.ends s.data.toList f.data.toList := ⟨_, rfl⟩
      rw [← hE] at HST
      have CS' := fun w => CS w (by omega)
      rw [← hE] at CS' HTR
      clear CS hE
      have CS := Lib.hid CS'
      clear CS'
      obtain ⟨ah, hah⟩ : ∃ ah : Nat, ah = r.ahead := ⟨_, rfl⟩
      rw [← hah] at q2 z3 HST
      obtain ⟨sp, hsp⟩ : ∃ sp : Int, sp = r.step := ⟨_, rfl⟩
      rw [← hsp] at q0 HST
      rw [← hfs] at z2; rw [← hgs] at z1
      clear hsp hah hfs hgs
      clear r
      by_cases h1 : sp = st
      · subst h1
        cases E with
        | false =>
          have hn := HST.out
          rw [Bool.false_and, if_neg (fun h => Bool.noConfusion h.2)] at hn
          have HN := Lib.hid hn
          clear hn HST HTR
          go_wp2_with fail
          refine (CS.out _).mono ?_
          rintro e w' ⟨t, rfl, _, rfl⟩
          clear CS
          go_wp2
          go_roundw
          case rel => exact ⟨k + 1, by omega, by go_num, hb.alloc (by omega) _, by rw [HR.out, HN.out]⟩
          case measure => simp [intOf]; omega
        | true =>
          have HY : Hid (ah ≤ s.size - f.size → Stm.chg sp (List.drop k Stm.rows) s.data.toList = s.data.toList.take (s.size - f.size) ++ g.data.toList) := fun h => by
            have hn := HST.out
            rwa [Bool.true_and, decide_eq_true h, if_pos ⟨rfl, rfl⟩] at hn
          have HX : Hid (¬ ah ≤ s.size - f.size → Stm.chg sp (List.drop k Stm.rows) s.data.toList = Stm.chg sp (List.drop (k + 1) Stm.rows) s.data.toList) := fun h => by
            have hn := HST.out
            rwa [Bool.true_and, decide_eq_false h, if_neg (fun h => Bool.noConfusion h.2)] at hn
          have HT2 := Lib.hid (fun t ht => HTR.out t ht rfl)
          clear HST HTR
          go_wp2_with fail
          refine (CS.out _).mono ?_
          rintro e w' ⟨t, rfl, ht, rfl⟩
          obtain ⟨t1, t2, t3⟩ := HT2.out t ht
          have T1 := Lib.hid t1
          clear CS HT2 ht t1
          by_cases h2 : ah ≤ t.size
          · have h2' : (t.size : Int) ≥ ah := by omega
            have HN := Lib.hid (HY.out (by omega))
            clear HY HX
            go_wp2
            go_ret
            exact ⟨_, rfl, by rw [HR.out, HN.out, ← T1.out]; simp, hb.alloc (by omega) _⟩
          · have h2' : ¬ (t.size : Int) ≥ ah := by omega
            have HN := Lib.hid (HX.out (by omega))
            clear HY HX
            go_wp2
            go_roundw
            case rel => exact ⟨k + 1, by omega, by go_num, hb.alloc (by omega) _, by rw [HR.out, HN.out]⟩
            case measure => simp [intOf]; omega
      · have hn := HST.out
        rw [if_neg (fun h => h1 h.1)] at hn
        have HN := Lib.hid hn
        clear hn HST HTR CS
        go_wp2
        go_roundw
        case rel => exact ⟨k + 1, by omega, by go_num, hb.alloc (by omega) _, by rw [HR.out, HN.out]⟩
        case measure => simp [intOf]; omega
    · obtain rfl : k = 15 := by omega
      go_wp2
      go_ret
      exact ⟨s, rfl, by rw [HR.out]; rfl, hb⟩
end Go.Proofs.YtgdjkddljnjckaaDoor
