/- The statement AuditSums, proved for every input that its row reads: part 12 of 54. -/
import Derived.Test.YtehocohpfgabiaaDoorPackAuditSums10
/- Which events are few. -/
namespace Go.Proofs.YtehocohpfgabiaaDoor
open Go Go.RowKit
set_option linter.unusedVariables false

theorem ev_cells {w : World} {b o : Nat} {x : EvP} (h : w.rangeAt b o x.cells) :
    w.cell? ⟨b, o, none⟩ = some (.int .i64 x.e.rep) ∧ w.cell? ⟨b, o + 1, none⟩ = some (.int .i64 x.e.n) ∧ w.cell? ⟨b, o + 2, none⟩ = some (.int .i64 x.e.time) ∧ w.cell? ⟨b, o + 3, none⟩ = some (.int .i64 x.e.kind) ∧
    w.cell? ⟨b, o + 4, none⟩ = some (.string x.e.doc) ∧ w.cell? ⟨b, o + 5, none⟩ = some (.int .i64 x.e.field) ∧ w.cell? ⟨b, o + 6, none⟩ = some (.string x.e.text) ∧ w.cell? ⟨b, o + 7, none⟩ = some (.slice x.p x.e.gone.length x.c) :=
  ⟨h 0 _ rfl, h 1 _ rfl, h 2 _ rfl, h 3 _ rfl, h 4 _ rfl, h 5 _ rfl, h 6 _ rfl, h 7 _ rfl⟩
/-- a list of events that came in -/
structure EvL where
  p : Option Addr
  c : Nat
  L : List EvP
def EvL.small (x : EvL) : Prop := x.L.length ≤ 80 ∧ ∀ y ∈ x.L, y.e.gone.length ≤ 130
def EvL.nil : EvL := ⟨none, 0, []⟩
def FewR (w : World) (K : List EvL) (e : Ending) (w' : World) : Prop := ∃ b, e = .returned (.bool b) ∧ (b = true → ∀ i, i < K.length → (K.getD i EvL.nil).small) ∧ Below w.heap.size w w'
set_option maxHeartbeats 8000000 in
set_option maxRecDepth 1000000 in
theorem fewE_is (G c0 : Nat) (K : List EvL) (w : World) (hG : ∀ i, i < K.length → w.cell? ⟨G, i, none⟩ = some (.slice (K.getD i EvL.nil).p (K.getD i EvL.nil).L.length (K.getD i EvL.nil).c) ∧ EvsAt w (K.getD i EvL.nil).p (K.getD i EvL.nil).L) (hK : K.length ≤ 10) :
    Calls Tryd.prog 5 #[.slice (some ⟨G, 0, none⟩) K.length c0] w (FewR w K) := by
  have HG := Lib.hid hG
  clear hG
  go_enter Tryd.func5, Tryd.ntmps5
  go_wp2
  go_loopw [3, 4, 11] (fun n b i wr => ∃ j m q : Nat, j ≤ K.length ∧ m ≤ 80 ∧ q ≤ 8192 ∧ n = .int .i64 m ∧ b = .int .i64 q ∧ i = .int .i64 j ∧ (∀ i, i < j → (K.getD i EvL.nil).small) ∧ Below w.heap.size w wr) (fun _ _ i _ => K.length - (intOf i).toNat)
  case atStart => exact ⟨0, 0, 0, Nat.zero_le _, Nat.zero_le _, Nat.zero_le _, rfl, rfl, rfl, fun i hi => by omega, Below.refl _ _⟩
  case round =>
    obtain ⟨j, m, q, hj, hm, hq, rfl, rfl, rfl, hall, hb⟩ := hrel
    have HA := Lib.hid hall; have BB := Lib.hid hb
    clear hall
    by_cases hjk : j < K.length
    · have hjk' : (j : Int) < K.length := by omega
      obtain ⟨k1, k2⟩ := HG.out j hjk
      have kc := (hb.cell (p := ⟨G, j, none⟩) (World.block_lt_of_cell? w _ k1)).trans k1
      have EV := Lib.hid k2
      clear k1 k2 hb
      have SM : Hid (∀ P : EvL → Prop, (K.getD j EvL.nil = K.getD j EvL.nil) → P (K.getD j EvL.nil) → P (K.getD j EvL.nil)) := Lib.hid fun P _ h => h
      clear SM
      obtain ⟨x, hx⟩ : ∃ x, K.getD j EvL.nil = x := ⟨_, rfl⟩
      rw [hx] at kc EV
      have HX := Lib.hid hx
      clear hx
      obtain ⟨p, c, L⟩ := x
      simp only at kc EV
      obtain ⟨m1, hm1⟩ : ∃ m1 : Nat, min (L.length : Int) 100 = m1 := ⟨min L.length 100, by omega⟩
      by_cases h80 : m + m1 ≤ 80
      · have h80' : ¬ ((m : Int) + m1 > 80) := by omega
        have hL80 : L.length ≤ 80 := by omega
        have HM := Lib.hid hm1
        clear hm1
        have hm1 : min (L.length : Int) 100 = m1 := HM.out
        go_wp2
        clear hm1
        go_loopw [4, 24] (fun b i wi => ∃ k q' : Nat, k ≤ L.length ∧ q' ≤ 8192 ∧ b = .int .i64 q' ∧ i = .int .i64 k ∧ (∀ i (hi : i < L.length), i < k → (L[i].e.gone.length ≤ 130)) ∧ Below w.heap.size w wi) (fun _ i _ => L.length - (intOf i).toNat)
        case atStart => exact ⟨0, q, Nat.zero_le _, hq, rfl, rfl, fun i _ hi => by omega, BB.out⟩
        case round =>
          obtain ⟨k, q', hk, hq', rfl, rfl, hall2, hb2⟩ := hrel
          have HA2 := Lib.hid hall2; have B2 := Lib.hid hb2
          clear hall2
          by_cases hkl : k < L.length
          · have hkl' : (k : Int) < L.length := by omega
            obtain ⟨b, o, rfl, hlt, hr⟩ := EV.out.at hkl
            have hr2 := range_below (w := w) hr hb2
            obtain ⟨c0, c1, c2, c3, c4, c5, c6, c7⟩ := ev_cells hr2
            have HL : Hid (L[k].e.gone.length = L[k].e.gone.length) := Lib.hid rfl
            clear hb2 hr hr2 hlt HL
            obtain ⟨y, hy⟩ : ∃ y, L[k] = y := ⟨_, rfl⟩
            rw [hy] at c0 c1 c2 c3 c4 c5 c6 c7
            have HY := Lib.hid hy
            clear hy
            obtain ⟨⟨r, n, t, kd, d, fl, tx, g⟩, gp, gc⟩ := y
            simp only at c0 c1 c2 c3 c4 c5 c6 c7
            have B3 := Lib.hid (B2.out.alloc B2.out.size (.cells #[.int .i64 r, .int .i64 n, .int .i64 t, .int .i64 kd, .string d, .int .i64 fl, .string tx, .slice gp g.length gc] 48))
            obtain ⟨a1, ha1⟩ : ∃ a1 : Nat, min (d.size : Int) 8192 = a1 := ⟨min d.size 8192, by omega⟩
            obtain ⟨a2, ha2⟩ : ∃ a2 : Nat, min (tx.size : Int) 8192 = a2 := ⟨min tx.size 8192, by omega⟩
            have z1 : a1 ≤ 8192 := by omega
            have z2 : a2 ≤ 8192 := by omega
            by_cases h130 : g.length ≤ 130
            · have h130' : ¬ ((g.length : Int) > 130) := by omega
              by_cases hbig : q' + (a1 + a2) ≤ 8192
              · have hbig' : ¬ ((q' : Int) + (a1 + a2) > 8192) := by omega
                go_wp2
                go_roundw
                case rel => exact ⟨k + 1, q' + (a1 + a2), by omega, hbig, by go_num, by go_num, fun i hi hik => by
                  rcases Nat.lt_or_ge i k with h | h
                  · exact HA2.out i hi h
                  · obtain rfl : i = k := by omega
                    rw [HY.out]; exact h130, by simpa using B3.out⟩
                case measure => simp [intOf]; omega
              · have hbig' : (q' : Int) + (a1 + a2) > 8192 := by omega
                go_wp2
                go_ret
                exact ⟨false, rfl, (fun h => by cases h), B3.out⟩
            · have h130' : (g.length : Int) > 130 := by omega
              go_wp2
              go_ret
              exact ⟨false, rfl, (fun h => by cases h), B3.out⟩
          · obtain rfl : k = L.length := by omega
            have hkl' : ¬ ((L.length : Nat) : Int) < L.length := by omega
            clear hb2
            go_wp2
            go_roundw
            case rel => exact ⟨j + 1, m + m1, q', by omega, h80, hq', by go_num, by go_num, by go_num, fun i hi => by
              rcases Nat.lt_or_ge i j with h | h
              · exact HA.out i h
              · obtain rfl : i = j := by omega
                rw [HX.out]
                exact ⟨hL80, fun y hy => by
                  obtain ⟨i, hi, rfl⟩ := List.getElem_of_mem hy
                  exact HA2.out i hi hi⟩, by simpa using B2.out⟩
            case measure => simp [intOf]; omega
      · have h80' : ((m : Int) + m1 > 80) := by omega
        go_wp2
        go_ret
        exact ⟨false, rfl, (fun h => by cases h), BB.out⟩
    · obtain rfl : j = K.length := by omega
      have hjk' : ¬ ((K.length : Nat) : Int) < K.length := by omega
      go_wp2
      go_ret
      exact ⟨true, rfl, fun _ => HA.out, BB.out⟩
end Go.Proofs.YtehocohpfgabiaaDoor
