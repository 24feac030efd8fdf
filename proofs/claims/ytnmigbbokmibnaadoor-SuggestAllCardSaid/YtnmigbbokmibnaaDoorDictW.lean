/- Dictionaries: what Build, Check, Len, At, Words come to. -/
import Derived.Test.YtnmigbbokmibnaaDoorDictPlain
import Derived.Test.YtnmigbbokmibnaaDoorStrLays
import Derived.Test.YtnmigbbokmibnaaDoorMemStrs
import Derived.Test.YtnmigbbokmibnaaDoorBoxEqS
import Derived.Outline
namespace Go.Proofs.YtnmigbbokmibnaaDoor
open Go Go.RowKit
set_option linter.unusedVariables false

theorem cloneS_is (p : Option Addr) (c : Nat) (l : List ByteArray) (w : World) (h : LiesS w p l) (hn : p = none → l = []) (hl : l.length ≤ 1000000) :
    Calls Tryd.prog 20 #[.slice p l.length c] w fun e w' => ∃ v', e = .returned v' ∧ w'.ownsRow w.heap.size 9 1 v' l.length (strs l) ∧ Below w.heap.size w w' := by
  cases p with
  | none =>
    obtain rfl := hn rfl
    refine (Tryd.slices_Clone_string_nil 0 c w).mono ?_
    rintro e w' ⟨rfl, rfl⟩
    exact ⟨_, rfl, ⟨rfl, .inl ⟨rfl, rfl⟩⟩, Below.refl _ _⟩
  | some a =>
    by_cases h0 : l = []
    · subst h0
      refine (Tryd.slices_Clone_string_zero a c w).mono ?_
      rintro e w' ⟨v', rfl, ho, _, hb⟩
      exact ⟨_, rfl, ho, hb⟩
    · obtain ⟨b, o, e, hc⟩ := h h0
      cases e
      refine (Tryd.slices_Clone_string b o l.length c l w (Nat.le_refl _) (by omega) hc).mono ?_
      rintro e w' ⟨v', rfl, ho, _, hb⟩
      rw [List.take_length] at ho
      exact ⟨_, rfl, ho, hb⟩

theorem follows_is (x a : ByteArray) (w : World) : Calls Tryd.prog 19 #[.string x, .string a] w fun e w' => e = .returned (.bool (goes x a)) ∧ w = w' := by
  unfold goes leB
  by_cases hs : x.size ≤ 64
  · have hs' : (x.size : Int) ≤ 64 := by omega
    cases h1 : Op.bytesLess x.toList a.toList <;> cases h2 : (x.toList == a.toList)
    all_goals
      rw [decide_eq_true hs]
      go_enter Tryd.func19, Tryd.ntmps19
      go_wp2
      go_ret
      exact ⟨rfl, rfl⟩
  · have hs' : ¬ (x.size : Int) ≤ 64 := by omega
    cases h1 : Op.bytesLess x.toList a.toList <;> cases h2 : (x.toList == a.toList)
    all_goals
      rw [decide_eq_false hs]
      go_enter Tryd.func19, Tryd.ntmps19
      go_wp2
      go_ret
      exact ⟨rfl, rfl⟩

/-- whether words are few -/
def Tells (w : World) (e : Ending) (w' : World) : Prop := ∃ b, e = .returned (.bool b) ∧ w = w'
/-- a dictionary of these words -/
def Dc (w : World) (D : Nat) (l : List ByteArray) : Prop :=
  ∃ p c, w.heap[D]? = some (.cells #[.slice p l.length c, .bool true] 51 (0, 0)) ∧ LiesS w p l ∧ (p = none → l = [])
theorem Dc.below {w w' : World} {D : Nat} {l : List ByteArray} (h : Dc w D l) (hb : Below w.heap.size w w') : Dc w' D l := by
  obtain ⟨p, c, h1, h2, h3⟩ := h
  exact ⟨p, c, (hb.block D (Array.getElem?_eq_some_iff.1 h1).1).trans h1, h2.below hb, h3⟩
def Built (w : World) (l : List ByteArray) (e : Ending) (w' : World) : Prop :=
  Below w.heap.size w w' ∧ ((verdict l = 0 ∧ ∃ D, e = .returned (.tuple #[.pointer (some ⟨D, 0, none⟩), .int .i64 0]) ∧ Dc w' D l) ∨ (verdict l ≠ 0 ∧ e = .returned (.tuple #[.pointer none, .int .i64 (verdict l)])))
set_option maxHeartbeats 4000000 in
theorem build_is (p : Option Addr) (c : Nat) (l : List ByteArray) (w : World) (h : LiesS w p l) (hn : p = none → l = []) (hlc : l.length ≤ c) :
    Calls Tryd.prog 7 #[.slice p l.length c] w (Built w l) := by
  have H := Lib.hid h; have HN := Lib.hid hn
  clear h hn
  by_cases hlong : 16384 < l.length
  · have hlong' : (l.length : Int) > 16384 := by omega
    have V := Lib.hid (verdict_long hlong)
    go_enter Tryd.func7, Tryd.ntmps7
    go_wp2
    go_ret2
    exact ⟨Below.refl _ _, .inr ⟨by rw [V.out]; decide, by rw [V.out]; rfl⟩⟩
  · have hlong' : ¬ (l.length : Int) > 16384 := by omega
    have hl6 : l.length ≤ 16384 := by omega
    go_enter Tryd.func7, Tryd.ntmps7
    go_wp2
    go_loopw [4, 12] (fun s i wr => ∃ (j : Nat), j ≤ l.length ∧ s = .string (aheadOf l j) ∧ i = .int .i64 j ∧ (∀ i, i < j → okAt l i = true) ∧ w = wr) (fun _ i _ => l.length - (intOf i).toNat)
    case atStart => exact ⟨0, Nat.zero_le _, rfl, rfl, fun i hi => by omega, rfl⟩
    case round =>
      obtain ⟨j, hj, rfl, rfl, hall, rfl⟩ := hrel
      have HA := Lib.hid hall
      clear hall
      by_cases hjl : j < l.length
      · have hjl' : (j : Int) < l.length := by omega
        obtain ⟨b, o, rfl, _, hc⟩ := H.out.at (by omega)
        have hcj := hc j hjl
        have F := Lib.hid (follows_is (l.getD j noW) (aheadOf l j) w)
        have AS := Lib.hid (aheadOf_succ l j)
        have OK : Hid (okAt l j = goes (l.getD j noW) (aheadOf l j)) := rfl
        clear hc
        generalize l.getD j noW = x at hcj F AS OK
        generalize aheadOf l j = a at F OK
        cases hg : goes x a with
        | true =>
          rw [hg] at F OK
          clear hg
          go_wp2_with fail
          refine F.out.mono ?_
          rintro e w' ⟨rfl, rfl⟩
          go_wp2
          go_roundw
          case rel => exact ⟨j + 1, by omega, by rw [AS.out], by go_num, fun i hi => by
            rcases Nat.lt_or_ge i j with h | h
            · exact HA.out i h
            · obtain rfl : i = j := by omega
              exact OK.out, by simp⟩
          case measure => simp [intOf]; omega
        | false =>
          rw [hg] at F OK
          have V := Lib.hid (verdict_bad hl6 hjl OK.out)
          clear hg
          go_wp2_with fail
          refine F.out.mono ?_
          rintro e w' ⟨rfl, rfl⟩
          go_wp2
          go_ret2
          exact ⟨Below.refl _ _, .inr ⟨by rw [V.out]; decide, by rw [V.out]; rfl⟩⟩
      · obtain rfl : j = l.length := by omega
        have hjl' : ¬ ((l.length : Nat) : Int) < l.length := by omega
        have V := Lib.hid (verdict_ok hl6 HA.out)
        have CL := Lib.hid (cloneS_is p c l w H.out HN.out (by omega))
        go_wp2_with fail
        refine CL.out.mono ?_
        rintro e w2 ⟨v', rfl, ho, hb⟩
        obtain ⟨_, q, cq, rfl, _, hlq, hnq⟩ := own_liesS ho
        have E : Hid (Dc (w2.alloc (.cells #[.slice q l.length cq, .bool true] 51)) w2.heap.size l) :=
          ⟨q, cq, heap_alloc_new w2 _, hlq.below ((Below.refl _ _).alloc (Nat.le_refl _) _), fun e => (hnq e).1⟩
        have BB : Hid (Below w.heap.size w (w2.alloc (.cells #[.slice q l.length cq, .bool true] 51))) := hb.alloc hb.size _
        clear ho hlq hnq hb
        go_wp2
        go_ret2
        exact ⟨BB.out, .inl ⟨V.out, _, rfl, E.out⟩⟩
theorem dictLen_is (D : Nat) (l : List ByteArray) (w : World) (h : Dc w D l) : Calls Tryd.prog 49 #[.pointer (some ⟨D, 0, none⟩)] w fun e w' => e = .returned (.int .i64 (l.length : Nat)) ∧ w = w' := by
  obtain ⟨p, c, h1, _⟩ := h
  have c0 := (cell_of_row w D 0 _ _ _ h1).trans rfl
  clear h1
  go_enter Tryd.func49, Tryd.ntmps49
  go_wp2
  go_ret
  exact ⟨rfl, rfl⟩
theorem dictWords_is (D : Nat) (l : List ByteArray) (w : World) (h : Dc w D l) (hl : l.length ≤ 1000000) : Calls Tryd.prog 17 #[.pointer (some ⟨D, 0, none⟩)] w fun e w' => ∃ q cq, e = .returned (.slice q l.length cq) ∧ LiesS w' q l ∧ Below w.heap.size w w' := by
  obtain ⟨p, c, h1, h2, h3⟩ := h
  have c0 := (cell_of_row w D 0 _ _ _ h1).trans rfl
  have CL := Lib.hid (cloneS_is p c l w h2 h3 hl)
  clear h1 h2 h3
  go_enter Tryd.func17, Tryd.ntmps17
  go_wp2_with fail
  refine CL.out.mono ?_
  rintro e w2 ⟨v', rfl, ho, hb⟩
  obtain ⟨_, q, cq, rfl, _, hlq, _⟩ := own_liesS ho
  have E := Lib.hid hlq; have BB := Lib.hid hb
  clear ho hlq hb
  go_wp2
  go_ret
  exact ⟨_, _, rfl, E.out, BB.out⟩
theorem dictAt_is (D : Nat) (l : List ByteArray) (i : Nat) (w : World) (h : Dc w D l) (hi : i < l.length) : Calls Tryd.prog 30 #[.pointer (some ⟨D, 0, none⟩), .int .i64 (i : Int)] w fun e w' => e = .returned (.tuple #[.string (l.getD i noW), .bool true]) ∧ w = w' := by
  have LN := Lib.hid (dictLen_is D l w h)
  obtain ⟨p, c, h1, h2, h3⟩ := h
  have c0 := (cell_of_row w D 0 _ _ _ h1).trans rfl
  obtain ⟨b, o, rfl, _, hc⟩ := h2.at (by omega)
  have hci := hc i hi
  have hi' : (i : Int) < l.length := by omega
  clear h1 h2 h3 hc
  generalize l.getD i noW = x at hci
  go_enter Tryd.func30, Tryd.ntmps30
  go_wp2_with fail
  refine LN.out.mono ?_
  rintro e w' ⟨rfl, rfl⟩
  go_wp2
  go_ret2
  exact ⟨rfl, rfl⟩
theorem dictAt_none (D : Nat) (l : List ByteArray) (i : Int) (w : World) (h : Dc w D l) (hi : ¬ (0 ≤ i ∧ i < l.length)) : Calls Tryd.prog 30 #[.pointer (some ⟨D, 0, none⟩), .int .i64 i] w fun e w' => e = .returned (.tuple #[.string noW, .bool false]) ∧ w = w' := by
  have LN := Lib.hid (dictLen_is D l w h)
  by_cases h0 : i < 0
  · clear hi h
    go_enter Tryd.func30, Tryd.ntmps30
    go_wp2
    go_ret2
    exact ⟨rfl, rfl⟩
  · have h1 : i ≥ (l.length : Int) := by omega
    clear hi h
    go_enter Tryd.func30, Tryd.ntmps30
    go_wp2_with fail
    refine LN.out.mono ?_
    rintro e w' ⟨rfl, rfl⟩
    go_wp2
    go_ret2
    exact ⟨rfl, rfl⟩
end Go.Proofs.YtnmigbbokmibnaaDoor
