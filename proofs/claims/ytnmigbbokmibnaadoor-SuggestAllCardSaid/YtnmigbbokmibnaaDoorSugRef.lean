/- The document's signs of a text. -/
import Derived.Test.YtnmigbbokmibnaaDoorSugSigns
namespace Go.Proofs.YtnmigbbokmibnaaDoor
open Go Go.RowKit
set_option linter.unusedVariables false

set_option maxHeartbeats 4000000 in
theorem refSigns_is (s : ByteArray) (w : World) (hs : s.size ≤ 1000) : Calls Tryd.prog 26 #[.string s] w (RetInts w 3 (Utf.sgs s s.size 0)) := by
  obtain ⟨all, hall⟩ : ∃ all, all = Utf.sgs s s.size 0 := ⟨_, rfl⟩
  have hlen : all.length ≤ s.size := by rw [hall]; have := Utf.sgs_len s s.size 0 (Nat.zero_le _); omega
  have W0 : Hid (SgW s 0 s.size [] all) := ⟨Nat.zero_le _, by omega, by rw [hall]; rfl⟩
  have EN := Lib.hid (refEnds_is s w (by omega))
  rw [← hall]
  obtain ⟨E, hE⟩ : ∃ E, casts (Utf.ends s s.size 0) = E := ⟨_, rfl⟩
  rw [hE] at EN
  have E0 : Hid (E.drop 0 = casts (Utf.ends s s.size 0)) := hE.symm
  have hEl : E.length ≤ 1000 := by rw [← hE, casts_len]; have := Utf.ends_len s s.size 0 (Nat.zero_le _); omega
  clear hall hE
  go_enter Tryd.func26, Tryd.ntmps26
  go_wp2_with fail
  refine EN.out.mono ?_
  rintro e w1 ⟨v1, rfl, ho1, hb1⟩
  obtain ⟨_, q1, c1, rfl, _, hl1, _⟩ := own_liesI ho1
  have L1 := Lib.hid hl1
  have B1 := Lib.hid hb1
  clear ho1 hl1 hb1 EN
  go_wp2_with fail
  go_loopw [3, 4, 12] (fun v at_ i wr => ∃ (j p f : Nat) (done : List Int), j ≤ E.length ∧ i = .int .i64 j ∧ at_ = .int .i64 p ∧ SgW s p f done all ∧ E.drop j = casts (Utf.ends s f p) ∧ wr.ownsRow w1.heap.size 3 1 v done.length (ints done) ∧ Below w1.heap.size w1 wr) (fun _ _ i _ => E.length - (intOf i).toNat)
  case atStart => exact ⟨0, 0, s.size, [], Nat.zero_le _, rfl, rfl, W0.out, E0.out, World.ownsRow_nil _ _ _ _, Below.refl _ _⟩
  case round =>
    obtain ⟨j, p, f, done, hj, rfl, rfl, hw, he, hown, hb⟩ := hrel
    have HW := Lib.hid hw; have O := Lib.hid hown; have B := Lib.hid hb; have HE := Lib.hid he
    have hz := hb.size
    have hdl := hw.len hlen
    obtain ⟨q, cq, rfl⟩ := ownV_slice hown
    have hfu := hw.fuel
    clear hw hown hb W0 E0
    by_cases hlt : p < s.size
    · have hst := Utf.nx_step s p hlt
      rw [Utf.ends_step s f p hlt hfu] at he
      have hjl : j < E.length := by
        have := congrArg List.length he
        rw [List.length_drop, casts_len, List.length_cons] at this; omega
      have hjl' : (j : Int) < E.length := by omega
      have hej : E.getD j 0 = ((p + (Utf.nx s p).2 : Nat) : Int) := by
        rw [List.drop_eq_getElem_cons hjl] at he
        have := (List.cons.inj he).1
        simp only [List.getD, List.getElem?_eq_getElem hjl, Option.getD_some]
        exact this
      have NE : Hid (E.drop (j + 1) = casts (Utf.ends s (f - 1) (p + (Utf.nx s p).2))) := by
        rw [List.drop_eq_getElem_cons hjl] at he
        exact (List.cons.inj he).2
      obtain ⟨b, o, rfl, _, hc⟩ := (L1.out.below B.out).at (by omega)
      have hcj := hc j hjl
      rw [hej] at hcj
      have HC := Lib.hid hcj
      have NW := Lib.hid (HW.out.next hlt)
      have NX := Lib.hid (refNext_in s p wr hlt (by omega))
      have hgl := Utf.gt_lt s p
      have hga := Utf.gt_at s p hlt
      have hlt' : (p : Int) < s.size := by omega
      clear he hej hc HE
      by_cases hneg : (Utf.nx s p).1 < 0
      · rw [sgn_yes hneg] at NW
        generalize Utf.gt s p = g at hgl hga NW
        generalize Utf.nx s p = xm at hst hneg NX NW hcj HC NE
        obtain ⟨x, m⟩ := xm
        simp only at hst hneg NW hcj HC NE
        obtain ⟨m1, m2, m3⟩ := hst
        obtain ⟨pm, hpm⟩ : ∃ pm, p + m = pm := ⟨_, rfl⟩
        rw [hpm] at hcj HC NW NE
        have wr1 : IntKind.i64.wrap (-1 - (g : Int)) = -1 - (g : Int) := IntWalk.i64_in _ ⟨by omega, by omega⟩
        clear hpm HW
        go_wp2_with fail
        refine NX.out.mono ?_
        rintro e w2 ⟨rfl, hb2⟩
        have O2 := Lib.hid (ownI_later O.out hb2); have B2 := Lib.hid (B.out.trans (hb2.mono hz))
        have hz2 : w1.heap.size ≤ w2.heap.size := Nat.le_trans hz hb2.size
        have c2 := (hb2.cell (p := ⟨b, o + j, none⟩) (World.block_lt_of_cell? wr _ HC.out)).trans HC.out
        clear hb2 NX O B hcj HC
        go_wp2_with (at_builtin; refine wpList_int isI64 _ rfl _ _ rfl w1.heap.size done.length done (.slice q done.length cq) rfl O2.out (-1 - (g : Int)) rfl (by omega) hz2 ?_)
        intro v3 w3 hown3 hb3
        have O3 : Hid (w3.ownsRow w1.heap.size 3 1 v3 (done ++ [-1 - (g : Int)]).length (ints (done ++ [-1 - (g : Int)]))) := by
          rw [List.length_append]; exact hown3
        have B3 := Lib.hid (B2.out.trans hb3)
        clear hown3
        go_wp2
        go_roundw
        case rel => exact ⟨j + 1, pm, f - 1, done ++ [-1 - (g : Int)], by omega, by go_num, rfl, NW.out, NE.out, O3.out, B3.out⟩
        case measure => simp [intOf]; omega
      · rw [sgn_no hneg] at NW
        clear hga hgl
        generalize Utf.nx s p = xm at hst hneg NX NW hcj HC NE
        obtain ⟨x, m⟩ := xm
        simp only at hst hneg NW hcj HC NE
        obtain ⟨m1, m2, m3⟩ := hst
        obtain ⟨pm, hpm⟩ : ∃ pm, p + m = pm := ⟨_, rfl⟩
        rw [hpm] at hcj HC NW NE
        clear hpm HW
        go_wp2_with fail
        refine NX.out.mono ?_
        rintro e w2 ⟨rfl, hb2⟩
        have O2 := Lib.hid (ownI_later O.out hb2); have B2 := Lib.hid (B.out.trans (hb2.mono hz))
        have hz2 : w1.heap.size ≤ w2.heap.size := Nat.le_trans hz hb2.size
        have c2 := (hb2.cell (p := ⟨b, o + j, none⟩) (World.block_lt_of_cell? wr _ HC.out)).trans HC.out
        clear hb2 NX O B hcj HC
        go_wp2_with (at_builtin; refine wpList_int isI64 _ rfl _ _ rfl w1.heap.size done.length done (.slice q done.length cq) rfl O2.out (x) rfl (by omega) hz2 ?_)
        intro v3 w3 hown3 hb3
        have O3 : Hid (w3.ownsRow w1.heap.size 3 1 v3 (done ++ [x]).length (ints (done ++ [x]))) := by
          rw [List.length_append]; exact hown3
        have B3 := Lib.hid (B2.out.trans hb3)
        clear hown3
        go_wp2
        go_roundw
        case rel => exact ⟨j + 1, pm, f - 1, done ++ [x], by omega, by go_num, rfl, NW.out, NE.out, O3.out, B3.out⟩
        case measure => simp [intOf]; omega
    · have he0 := HE.out
      rw [Utf.ends_end s f p (by omega)] at he0
      have hjl : j = E.length := by
        have := congrArg List.length he0
        rw [List.length_drop] at this
        simp [casts] at this; omega
      subst hjl
      have hjl' : ¬ ((E.length : Nat) : Int) < E.length := by omega
      have HD : Hid (done = all) := by
        have := HW.out.all
        rw [Utf.sgs_end s f p (by omega), List.append_nil] at this
        exact this
      clear he0
      go_wp2
      go_ret
      exact RetInts.of_own (by rw [← HD.out]; exact own_mono O.out B1.out.size) rfl (thenBelow B1.out B.out)
end Go.Proofs.YtnmigbbokmibnaaDoor
