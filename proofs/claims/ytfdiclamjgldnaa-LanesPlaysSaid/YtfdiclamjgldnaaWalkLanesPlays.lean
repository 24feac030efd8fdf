/- The walk of LanesPlays. -/
import Derived.Test.YtfdiclamjgldnaaLnDoes
import Derived.Deep.CutBlock
namespace Go.Proofs.Ytfdiclamjgldnaa
open Go Go.RowKit Go.Conc
set_option linter.unusedVariables false

theorem drewN_belowE {B : Nat} {a w : World} (h : Below B a w) (n : Nat) : Below B a (w.drewN n) := ⟨h.os, h.tape, h.output, h.size, h.block⟩
theorem lnNew_nil (n : Int) (h : n < 2 ∨ ¬ n < 2 ∧ 64 < n) (w : World) : Calls Try.prog 7 #[.int .i64 n] w fun e w' => e = .returned (.pointer none) ∧ w = w' := by
  rcases h with h | ⟨h1, h2⟩
  all_goals
    go_enter Try.func7, Try.ntmps7
    go_wp2
    go_ret
    exact ⟨rfl, rfl⟩
def EndTo (B A R n : Nat) (W : World) (f t : Int) (w : World) : Prop :=
  ∃ S L : Int, ∃ c : Nat, Calls Try.prog 10 #[.pointer (some ⟨A, 0, none⟩)] w fun e w' => e = .returned (.tuple #[.int .i64 S, .int .i64 L]) ∧ (w'.cell? ⟨R, 2, none⟩ = some (.int .i64 S) ∧ w'.cell? ⟨R, 3, none⟩ = some (.int .i64 L)) ∧ Below B W w' ∧ R < w'.heap.size ∧
    Calls Try.prog 11 #[.pointer (some ⟨A, 0, none⟩), .int .i64 f, .int .i64 t] w' fun e w2 => e = .returned (.int .i64 (c : Int)) ∧ w' = w2 ∧
      Calls Try.prog 12 #[.pointer (some ⟨R, 0, none⟩), .int .i64 f, .int .i64 t] w' fun e w3 => e = .returned (.int .i64 (c : Int)) ∧ Below w'.heap.size w' w3
theorem end_is (B A R n : Nat) (W : World) (k : Nat) (hk : k ≤ 80) (f t : Int) (w : World) (h : St B A R n W k w) : EndTo B A R n W f t w := by
  obtain ⟨F, L, S, Lo, hx, hr, hrel, hin, hL, hS, hLo, hb⟩ := h
  refine ⟨S, Lo, (on (f, t) L).length, (lnTotals B A n F S Lo w hx).mono ?_⟩
  rintro e w' ⟨rfl, m, rfl⟩
  have hd : Below w.heap.size w (w.drewN m) := drewN_belowE (Below.refl _ _) m
  have hx1 := hx.below hd
  have hr1 := hr.below hd
  obtain ⟨_, _, _, _, c2, c3, _⟩ := hr1.cells
  refine ⟨rfl, ⟨c2, c3⟩, drewN_belowE hb m, hr1.lt, ?_⟩
  have hc := refCount_is B R n L S Lo f t _ hr1 (by omega)
  by_cases hn : InN n (f, t)
  · refine (lnCount B A n F S Lo _ hx1 f t hn).mono ?_
    rintro e w2 ⟨rfl, rfl⟩
    exact ⟨by rw [hrel.len], rfl, hc⟩
  · refine (count_noway B A n F S Lo _ hx1 f t hn).mono ?_
    rintro e w2 ⟨rfl, rfl⟩
    rw [in_none hin hn] at hc ⊢
    exact ⟨rfl, rfl, hc⟩
set_option maxHeartbeats 8000000 in
set_option maxRecDepth 1000000 in
theorem lanesPlays_walk (n : Int) (p : Option Addr) (c : Nat) (vs : List LDo) (f t : Int) (W : World) (hn : (Lit.int .i64 n).wf = true) (hl : LDosLie W p vs) (hvl : vs.length ≤ 9223372036854775807) (hf : (Lit.int .i64 f).wf = true) (ht : (Lit.int .i64 t).wf = true) :
    Calls Try.prog 3 #[.int .i64 n, .slice p vs.length c, .int .i64 f, .int .i64 t] W (Yes W) := by
  have AW := Lib.hid awake26
  clear hn hf ht
  by_cases hin : n < 2 ∨ ¬ n < 2 ∧ 64 < n
  · have NN := Lib.hid (lnNew_nil n hin W)
    clear hl hvl
    rcases hin with h1 | ⟨h1, h2⟩
    all_goals
      go_enter Try.func3, Try.ntmps3
      go_wp2_with fail
      refine NN.out.mono ?_
      rintro e w' ⟨rfl, rfl⟩
      go_wp2_with fail
      refine (AW.out _).mono ?_
      rintro e w3 ⟨rfl, hb3⟩
      have E := Lib.hid hb3
      clear hb3 NN
      go_wp2
      go_ret
      exact ⟨rfl, E.out⟩
  · obtain ⟨N, rfl⟩ : ∃ N : Nat, n = (N : Int) := ⟨n.toNat, by omega⟩
    have hN2 : 2 ≤ N := by omega
    have hN64 : N ≤ 64 := by omega
    have i1 : ¬ (N : Int) < 2 := by omega
    have i2 : ¬ (64 : Int) < N := by omega
    have NW := Lib.hid (lnNew N hN2 hN64 W)
    have HL := Lib.hid hl
    generalize hB : W.heap.size = B at *
    clear hl hin
    go_enter Try.func3, Try.ntmps3
    go_wp2_with fail
    refine NW.out.mono ?_
    rintro e w1 ⟨A, rfl, hx, hb⟩
    rw [hB] at hx hb
    have ST : Hid (St B A w1.heap.size N W 0 (w1.alloc (.cells #[.int .i64 (N : Int), .slice none 0 0, .int .i64 0, .int .i64 0] 29))) := by
      have al : Below w1.heap.size w1 (w1.alloc (.cells #[.int .i64 (N : Int), .slice none 0 0, .int .i64 0, .int .i64 0] 29)) := (Below.refl _ _).alloc (Nat.le_refl _) _
      have hs := hx.size
      exact ⟨fun _ => [], [], 0, 0, hx.below al, ⟨⟨_, heap_alloc_new w1 _, World.ownsRow_nil _ _ _ _, fun _ => rfl⟩, hs, fun p hp => by simp at hp⟩, Rel.nil, fun p hp => by simp at hp, Nat.le_refl _, ⟨by omega, by omega⟩, ⟨by omega, by omega⟩, hb.trans (al.mono hs)⟩
    clear hx hb NW
    go_upto_region 5 with fail
    generalize w1.alloc (.cells #[.int .i64 (N : Int), .slice none 0 0, .int .i64 0, .int .i64 0] 29) = w2 at ST ⊢
    generalize w1.heap.size = R at ST ⊢
    go_wp2_with fail
    go_loopw [33] (fun i wr => ∃ j k : Nat, j ≤ vs.length ∧ i = .int .i64 j ∧ k = min j 80 ∧ St B A R N W k wr) (fun i _ => vs.length - (intOf i).toNat)
    case atStart => exact ⟨0, 0, Nat.zero_le _, rfl, rfl, ST.out⟩
    case round =>
      obtain ⟨j, k, hj, rfl, hk, hs⟩ := hrel
      have SS := Lib.hid hs; have HK := Lib.hid hk
      clear hs hk ST
      by_cases hlt : j < vs.length
      · have hjI : (j : Int) < vs.length := by omega
        obtain ⟨v, hv⟩ : ∃ v, vs[j]? = some v := ⟨_, List.getElem?_eq_getElem hlt⟩
        have OK := Lib.hid (HL.out.1 _ (List.mem_of_getElem? hv))
        obtain ⟨b, o, rfl, hbW, hall⟩ := HL.out.2 (by intro e; rw [e] at hlt; simp at hlt)
        have AF := hall j _ hv
        clear hall hv
        have BW := SS.out.bel
        obtain ⟨vo, vf, vt, vk, va, vb, vbp, vbc, vbs⟩ := v
        rw [hB] at hbW
        have a0 : wr.cell? ⟨b, o + j * 7, none⟩ = some (.int .i64 vo) := (BW.cell hbW).trans (AF 0 _ rfl)
        have a1 : wr.cell? ⟨b, o + j * 7 + 1, none⟩ = some (.int .i64 vf) := (BW.cell hbW).trans (AF 1 _ rfl)
        have a2 : wr.cell? ⟨b, o + j * 7 + 2, none⟩ = some (.int .i64 vt) := (BW.cell hbW).trans (AF 2 _ rfl)
        have a3 : wr.cell? ⟨b, o + j * 7 + 3, none⟩ = some (.int .i64 vk) := (BW.cell hbW).trans (AF 3 _ rfl)
        have a4 : wr.cell? ⟨b, o + j * 7 + 4, none⟩ = some (.int .i64 va) := (BW.cell hbW).trans (AF 4 _ rfl)
        have a5 : wr.cell? ⟨b, o + j * 7 + 5, none⟩ = some (.int .u8 (vb.toNat : Int)) := (BW.cell hbW).trans (AF 5 _ rfl)
        have a6 : wr.cell? ⟨b, o + j * 7 + 6, none⟩ = some (.slice vbp vbs.length vbc) := (BW.cell hbW).trans (AF 6 _ rfl)
        clear AF BW
        go_upto_region 8 with fail
        have al : Below wr.heap.size wr (wr.alloc (.cells #[.int .i64 vo, .int .i64 vf, .int .i64 vt, .int .i64 vk, .int .i64 va, .int .u8 (vb.toNat : Int), .slice vbp vbs.length vbc] 32)) := (Below.refl _ _).alloc (Nat.le_refl _) _
        have S3 := Lib.hid (SS.out.below al)
        have HN := heap_alloc_new wr (.cells #[.int .i64 vo, .int .i64 vf, .int .i64 vt, .int .i64 vk, .int .i64 va, .int .u8 (vb.toNat : Int), .slice vbp vbs.length vbc] 32)
        clear a0 a1 a2 a3 a4 a5 a6 SS al
        generalize wr.alloc (.cells #[.int .i64 vo, .int .i64 vf, .int .i64 vt, .int .i64 vk, .int .i64 va, .int .u8 (vb.toNat : Int), .slice vbp vbs.length vbc] 32) = w3 at S3 HN ⊢
        generalize wr.heap.size = X at HN ⊢
        have e0 : w3.cell? ⟨X, 0, none⟩ = some (.int .i64 vo) := by rw [cell_of_row w3 X 0 _ _ _ HN]; rfl
        have e1 : w3.cell? ⟨X, 1, none⟩ = some (.int .i64 vf) := by rw [cell_of_row w3 X 1 _ _ _ HN]; rfl
        have e2 : w3.cell? ⟨X, 2, none⟩ = some (.int .i64 vt) := by rw [cell_of_row w3 X 2 _ _ _ HN]; rfl
        have e3 : w3.cell? ⟨X, 3, none⟩ = some (.int .i64 vk) := by rw [cell_of_row w3 X 3 _ _ _ HN]; rfl
        have e4 : w3.cell? ⟨X, 4, none⟩ = some (.int .i64 va) := by rw [cell_of_row w3 X 4 _ _ _ HN]; rfl
        have e5 : w3.cell? ⟨X, 5, none⟩ = some (.int .u8 (vb.toNat : Int)) := by rw [cell_of_row w3 X 5 _ _ _ HN]; rfl
        have e6 : w3.cell? ⟨X, 6, none⟩ = some (.slice vbp vbs.length vbc) := by rw [cell_of_row w3 X 6 _ _ _ HN]; rfl
        clear HN
        by_cases h80 : j < 80
        · have h80I : (j : Int) < 80 := by omega
          have DO := Lib.hid (does_is B A R N W k (by have := HK.out; omega) w3 S3.out vo vf vt vk va vb vbp vbc vbs hB.symm OK.out)
          clear S3 OK
          go_wp2_with fail
          refine DO.out.mono ?_
          rintro e w4 ⟨rfl, hs4⟩
          have S4 := Lib.hid hs4
          clear hs4 DO e0 e1 e2 e3 e4 e5 e6
          go_wp2
          go_roundw
          case rel => exact ⟨j + 1, k + 1, by omega, by go_num, by have := HK.out; omega, S4.out⟩
          case measure => simp [intOf]; omega
        · have h80I : ¬ (j : Int) < 80 := by omega
          go_wp2
          go_roundw
          case rel => exact ⟨j + 1, k, by omega, by go_num, by have := HK.out; omega, S3.out⟩
          case measure => simp [intOf]; omega
      · obtain rfl : j = vs.length := by omega
        have hjl' : ¬ ((vs.length : Nat) : Int) < vs.length := by omega
        obtain ⟨S, Lo, cc, hT⟩ := end_is B A R N W k (by have := HK.out; omega) f t wr SS.out
        have TT := Lib.hid hT
        clear hT SS
        go_wp2_with fail
        refine TT.out.mono ?_
        rintro e w3 ⟨rfl, ⟨c2, c3⟩, hb3, hR3, hC⟩
        have C1 := Lib.hid hC; have B3 := Lib.hid hb3
        clear hC hb3 TT
        go_wp2_with fail
        refine C1.out.mono ?_
        rintro e w4 ⟨rfl, rfl, hC2⟩
        have C2 := Lib.hid hC2
        clear hC2 C1
        go_wp2_with fail
        refine C2.out.mono ?_
        rintro e w5 ⟨rfl, hb5⟩
        have d2 := (hb5.cell (p := ⟨R, 2, none⟩) hR3).trans c2
        have d3 := (hb5.cell (p := ⟨R, 3, none⟩) hR3).trans c3
        have B5 := Lib.hid (B3.out.trans (hb5.mono (by rw [← hB]; exact B3.out.size)))
        have x1 : ((cc : Int) == (cc : Int)) = true := by simp
        have x2 : (S == S) = true := by simp
        have x3 : (Lo == Lo) = true := by simp
        clear hb5 C2 B3 c2 c3
        go_wp2_with fail
        refine (AW.out _).mono ?_
        rintro e w6 ⟨rfl, hb6⟩
        have E := Lib.hid (B5.out.trans (hb6.mono (by rw [← hB]; exact B5.out.size)))
        clear hb6
        go_wp2
        go_ret
        exact ⟨rfl, by rw [hB]; exact E.out⟩
end Go.Proofs.Ytfdiclamjgldnaa
