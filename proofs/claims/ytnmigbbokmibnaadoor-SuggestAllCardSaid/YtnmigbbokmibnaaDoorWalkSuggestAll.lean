/- The walk of SuggestAll. -/
import Derived.Test.YtnmigbbokmibnaaDoorSugAll
import Derived.Test.YtnmigbbokmibnaaDoorSugAwake
import Derived.Test.YtnmigbbokmibnaaDoorUtfTexts
import Derived.Test.YtnmigbbokmibnaaDoorMemOne
namespace Go.Proofs.YtnmigbbokmibnaaDoor
open Go Go.RowKit Go.Sort
set_option linter.unusedVariables false

theorem isOneW : One Tryd.prog 22 9 (.string ⟨#[]⟩) 16 := ⟨Tryd.underlying22, by kernel_rfl, rfl, by decide, by decide⟩
set_option maxHeartbeats 20000000 in
set_option maxRecDepth 1000000 in
theorem suggestAll_walk (p : Option Addr) (c : Nat) (l : List ByteArray) (W : World) (hl : LiesT W p l) (hlc : l.length ≤ c) (hmx : l.length ≤ maxLen) (hT : Shapes W) :
    Calls Tryd.prog 4 #[.slice p l.length c] W (Yes W) := by
  have H := Lib.hid hl; have TT := Lib.hid hT
  have hmx' : (l.length : Int) ≤ 9223372036854775807 := by unfold maxLen at hmx; omega
  clear hl hT hmx
  go_enter Tryd.func4, Tryd.ntmps4
  go_wp2
  go_loopw [3, 11] (fun v i wr => ∃ j : Nat, j ≤ l.length ∧ j ≤ 41 ∧ i = .int .i64 j ∧ wr.ownsRow W.heap.size 9 1 v j (strs (l.take j)) ∧ Below W.heap.size W wr) (fun _ i _ => l.length - (intOf i).toNat)
  case atStart => exact ⟨0, Nat.zero_le _, Nat.zero_le _, rfl, ⟨rfl, .inl ⟨rfl, rfl⟩⟩, Below.refl _ _⟩
  case round =>
    obtain ⟨j, hj, hj41, rfl, hown, hb⟩ := hrel
    obtain ⟨hn, qv, cv, hv, _⟩ := own_liesS hown
    rw [← hn] at hv
    subst hv
    clear hn
    have O := Lib.hid hown; have BB := Lib.hid hb
    by_cases hjl : j < l.length
    · have hjl' : (j : Int) < l.length := by omega
      obtain ⟨b, o, q, n, cc, rfl, k1, k2⟩ := H.out.at hb hjl
      have TS := Lib.hid (take_succD l j hjl)
      clear hown hb
      generalize l.getD j noW = x at k1 TS
      have O1 := Lib.hid (O.out.alloc (.cells #[.string x, .slice q n cc] 42))
      have B1 := Lib.hid (BB.out.alloc BB.out.size (.cells #[.string x, .slice q n cc] 42))
      have D1 := Lib.hid (heap_alloc_new wr (.cells #[.string x, .slice q n cc] 42))
      clear O BB
      by_cases h40 : j ≤ 40
      · have h40' : ¬ (j : Int) > 40 := by omega
        by_cases h200 : x.size ≤ 200
        · have h200' : ¬ (x.size : Int) > 200 := by omega
          have hz1 := B1.out.size
          go_wp2_with (at_builtin; refine wpList_one isOneW _ rfl _ _ rfl W.heap.size j (strs (l.take j)) (.slice qv j cv) rfl O1.out (.string x) rfl (by rw [World.size_alloc]; rfl) (by omega) hz1 ?_)
          intro v' w' o2 b2 _
          have O2 : Hid (w'.ownsRow W.heap.size 9 1 v' (j + 1) (strs (l.take (j + 1)))) := by
            rw [TS.out, strs_append]; exact Lib.hid o2
          have B2 := Lib.hid (B1.out.trans b2)
          clear o2 b2
          go_wp2
          go_roundw
          case rel => exact ⟨j + 1, by omega, by omega, by go_num, by simpa using O2.out, by simpa using B2.out⟩
          case measure => simp [intOf]; omega
        · have h200' : (x.size : Int) > 200 := by omega
          go_wp2_with fail
          generalize wr.alloc (.cells #[.string x, .slice q n cc] 42) = w1 at O1 B1 D1 ⊢
          have k3 := (cell_of_row w1 wr.heap.size 0 _ _ _ D1.out).trans (show _ = some (Value.string x) from rfl)
          have AW := Lib.hid (awake32 w1 (TT.out.below B1.out))
          clear k1 k2
          go_wp2_with fail
          refine AW.out.mono ?_
          rintro e w9 ⟨rfl, hb9⟩
          have B9 := Lib.hid (thenBelow B1.out hb9)
          clear hb9
          go_wp2
          go_ret
          exact ⟨rfl, B9.out⟩
      · have h40' : (j : Int) > 40 := by omega
        go_wp2_with fail
        generalize wr.alloc (.cells #[.string x, .slice q n cc] 42) = w1 at O1 B1 D1 ⊢
        have AW := Lib.hid (awake32 w1 (TT.out.below B1.out))
        clear k1 k2
        go_wp2_with fail
        refine AW.out.mono ?_
        rintro e w9 ⟨rfl, hb9⟩
        have B9 := Lib.hid (thenBelow B1.out hb9)
        clear hb9
        go_wp2
        go_ret
        exact ⟨rfl, B9.out⟩
    · obtain rfl : j = l.length := by omega
      have hjl' : ¬ ((l.length : Nat) : Int) < l.length := by omega
      have O' : Hid (wr.ownsRow W.heap.size 9 1 (.slice qv l.length cv) l.length (strs l)) := by
        have := O.out
        rw [List.take_length] at this
        exact Lib.hid this
      have SO := Lib.hid (sortS_is W.heap.size l _ wr O'.out (by omega))
      clear hown hb O
      go_wp2_with fail
      refine SO.out.mono ?_
      rintro e w2 ⟨rfl, o2, g2⟩
      have B2 := Lib.hid (BB.out.grown g2 BB.out.size (fun k hk => (O'.out.lt k hk).1))
      have CO := Lib.hid (compS_is W.heap.size (sortS l) _ w2 o2 (by rw [sortS_len]; omega))
      have O2 := Lib.hid o2
      clear SO o2 g2 O'
      go_wp2_with fail
      refine CO.out.mono ?_
      rintro e w3 ⟨v3, rfl, o3, g3⟩
      have B3 := Lib.hid (B2.out.grown g3 B2.out.size (fun k hk => (O2.out.lt k hk).1))
      obtain ⟨_, p3, c3, rfl, hc3, l3, n3⟩ := own_liesS o3
      have hwl := wordsIn_len l
      change (wordsIn l).length ≤ c3 at hc3
      change LiesS w3 p3 (wordsIn l) at l3
      change p3 = none → wordsIn l = [] ∧ c3 = 0 at n3
      have AL := Lib.hid (all_is p c l w3 (H.out.below B3.out) hj41)
      have VG := Lib.hid (verdict_of_good l (by omega))
      have WO : Hid (wordsOf l = if verdict (wordsIn l) = 0 then wordsIn l else []) := Lib.hid rfl
      have L3 := Lib.hid l3
      rw [show compS (sortS l) = wordsIn l from rfl]
      generalize wordsOf l = wo at AL WO
      generalize wordsIn l = ws at hwl hc3 L3 n3 VG WO ⊢
      clear CO o3 g3 O2 l3 n3
      go_wp2_with fail
      refine AL.out.mono ?_
      rintro e w4 ⟨D, rfl, hd, b4⟩
      have B4 := Lib.hid (thenBelow B3.out b4)
      have L4 := Lib.hid (L3.out.below b4)
      have hwo : wo.length ≤ 41 := by
        rw [WO.out]
        split
        · omega
        · simp
      have WD := Lib.hid (dictWords_is D wo w4 hd (by omega))
      clear AL b4 hd L3
      go_wp2_with fail
      refine WD.out.mono ?_
      rintro e w5 ⟨q5, c5, rfl, l5, b5⟩
      have B5 := Lib.hid (thenBelow B4.out b5)
      have L5 := Lib.hid (L4.out.below b5)
      have G5 := Lib.hid l5
      clear WD b5 L4 l5 B4
      go_wp2_with fail
      go_loopw [40] (fun i wr => ∃ j : Nat, j ≤ ws.length ∧ i = .int .i64 j ∧ (∀ i, i < j → goodW (ws.getD i noW)) ∧ w5 = wr) (fun i _ => ws.length - (intOf i).toNat)
      case atStart => exact ⟨0, Nat.zero_le _, rfl, fun i hi => by omega, rfl⟩
      case round =>
        obtain ⟨j, hj, rfl, hall, rfl⟩ := hrel
        have HA := Lib.hid hall
        clear hall
        by_cases hjw : j < ws.length
        · have hjw' : (j : Int) < ws.length := by omega
          obtain ⟨b, o, rfl, _, hc⟩ := L5.out.at (by omega)
          have hcj := hc j hjw
          clear hc
          by_cases hg : goodW (ws.getD j noW)
          · have HG := Lib.hid hg
            obtain ⟨g1, g2⟩ := hg
            generalize hx : ws.getD j noW = x at hcj g1 g2 HG
            have HX := Lib.hid hx
            have g3 : x.toList ≠ [] := by intro e; rw [e] at g1; cases g1
            have g4 : ¬ (x.size : Int) > 64 := by omega
            clear hx
            go_wp2
            go_roundw
            case rel => exact ⟨j + 1, by omega, by go_num, fun i hi => by
              rcases Nat.lt_or_ge i j with h | h
              · exact HA.out i h
              · obtain rfl : i = j := by omega
                rw [HX.out]; exact HG.out, by simp⟩
            case measure => simp [intOf]; omega
          · have hwo0 : wo = [] := by
              rw [WO.out, if_neg]
              intro hv
              exact hg (goodW_of hv j hjw)
            subst hwo0
            clear WO hwo
            have AW := Lib.hid (awake32 w5 (TT.out.below B5.out))
            generalize ws.getD j noW = x at hcj hg
            by_cases g1 : x.toList = []
            · have g2 : x.toList.isEmpty = true := by rw [g1]; rfl
              clear hg
              go_wp2_with fail
              refine AW.out.mono ?_
              rintro e w9 ⟨rfl, hb9⟩
              have B9 := Lib.hid (thenBelow B5.out hb9)
              clear hb9
              go_wp2
              go_ret
              exact ⟨rfl, B9.out⟩
            · have g2 : x.toList.isEmpty = false := by
                cases h : x.toList with
                | nil => exact absurd h g1
                | cons a b => rfl
              have g4 : (x.size : Int) > 64 := by
                rcases Nat.lt_or_ge 64 x.size with h | h
                · omega
                · exact absurd ⟨g2, h⟩ hg
              clear hg
              go_wp2_with fail
              refine AW.out.mono ?_
              rintro e w9 ⟨rfl, hb9⟩
              have B9 := Lib.hid (thenBelow B5.out hb9)
              clear hb9
              go_wp2
              go_ret
              exact ⟨rfl, B9.out⟩
        · obtain rfl : j = ws.length := by omega
          have hjw' : ¬ ((ws.length : Nat) : Int) < ws.length := by omega
          have hwo1 : wo = ws := by rw [WO.out, if_pos (VG.out HA.out)]
          subst hwo1
          have EQ := Lib.hid (equalS_same q5 p3 c5 c3 wo w5 G5.out L5.out (by omega))
          clear WO VG HA
          go_wp2_with fail
          refine EQ.out.mono ?_
          rintro e w6 ⟨rfl, hb6⟩
          have B6 := Lib.hid (thenBelow B5.out hb6)
          clear hb6 EQ
          have AW := Lib.hid (awake32 w6 (TT.out.below B6.out))
          go_wp2_with fail
          refine AW.out.mono ?_
          rintro e w9 ⟨rfl, hb9⟩
          have B9 := Lib.hid (thenBelow B6.out hb9)
          clear hb9
          go_wp2
          go_ret
          exact ⟨rfl, B9.out⟩
end Go.Proofs.YtnmigbbokmibnaaDoor
