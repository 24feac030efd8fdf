/- The walk of BoxLives. -/
import Derived.Test.YtboilelkkiimoaaBoxDel
import Derived.Test.YtboilelkkiimoaaBoxPull
import Derived.Test.YtboilelkkiimoaaBoxListI
import Derived.Test.YtboilelkkiimoaaBoxAwake
import Derived.Test.YtboilelkkiimoaaEqualI
import Derived.Test.YtboilelkkiimoaaOpenS
import Derived.Test.YtboilelkkiimoaaRgMore
import Derived.Deep.CutBlock
import Derived.Deep.DeepCutAuto
namespace Go.Proofs.Ytboilelkkiimoaa
open Go Go.RowKit Go.Conc
set_option linter.unusedVariables false

theorem int_rangeB {n : Int} (h : (Lit.int .i64 n).wf = true) : -9223372036854775808 ≤ n ∧ n ≤ 9223372036854775807 := by
  simp [Lit.wf, IntKind.min, IntKind.max, IntKind.bits, IntKind.signed] at h; omega
theorem thenB {a b c : World} {n : Nat} (h : Below n a b) (hn : n ≤ a.heap.size) (k : Below b.heap.size b c) : Below n a c := h.trans (k.mono (Nat.le_trans hn h.size))
/-- what lies while deeds are done: the box, and the list that it is -/
structure BL (W : World) (B a C cap : Nat) (gs : List Nat) (vs : List Int) (v : Value) (w : World) : Prop where
  box : Bx w a C cap gs
  vals : Vals encI w gs vs
  que : Que B gs w v vs
  below : Below W.heap.size W w
  size : B ≤ w.heap.size
theorem BL.len {W : World} {B a C cap : Nat} {gs : List Nat} {vs : List Int} {v : Value} {w : World} (h : BL W B a C cap gs vs v w) : vs.length ≤ cap := by have := h.box.le; have := h.vals.len; omega
theorem BL.later {W : World} {B a C cap : Nat} {gs : List Nat} {vs : List Int} {v : Value} {w w' : World} (h : BL W B a C cap gs vs v w) (hb : Below w.heap.size w w') : BL W B a C cap gs vs v w' :=
  ⟨h.box.below hb, h.vals.below hb, h.que.below hb, thenB h.below (Nat.le_refl _) hb, Nat.le_trans h.size hb.size⟩
theorem grown_below {W w w' : World} {C : Nat} (h : Below W.heap.size W w) (hC : W.heap.size ≤ C) (hg : w.grownBy w' (some C)) : Below W.heap.size W w' :=
  h.grown hg h.size (fun k hk => by have := Option.some.inj hk; omega)
theorem rg_calmQ {P : Program} {ops : Array Oper} {Q : Exit → Act → World → Prop} {a : Act} {w : World} {S : World → Prop} {id m : Nat} (hm : P.follows .mixedOrders = true) (hn : ops.size = m) (h : wpAnyH P .any ops (Exit.then (fun a w => Q .normal a w) (fun _ _ _ => False)) S m (Array.replicate m false) a w.drew) : (Code.region id ops true).wp P Q a w := by
  subst hn
  refine wp_mono (wp_region_held hm h) ?_
  intro e a w h
  cases e <;> first | exact h | exact h.elim
theorem Que.lies {B : Nat} {gs : List Nat} {w : World} {p : Option Addr} {n cap : Nat} {vs : List Int} (h : Que B gs w (.slice p n cap) vs) : LiesI w p vs := by
  intro hne
  obtain ⟨_, _, g, off, e, _, hc⟩ := h.at hne
  exact ⟨g, off, e, hc⟩
/-- what a box's list is -/
theorem list_lies (a C cap : Nat) (gs : List Nat) (vs : List Int) (w : World) (h : Bx w a C cap gs) (hv : Vals encI w gs vs) (hcap : cap ≤ 4096) :
    Calls Try.prog 14 #[.pointer (some ⟨a, 0, none⟩)] w fun e w' => ∃ p c, e = .returned (.slice p vs.length c) ∧ LiesI w' p vs ∧ Bx w' a C cap gs ∧ Vals encI w' gs vs ∧ w.grownBy w' (some C) := by
  refine (listI a C cap gs vs w h hv hcap).mono ?_
  rintro e w' ⟨v, rfl, ho, hb, hv', hg⟩
  obtain ⟨_, p, c, rfl, _, hl, _⟩ := own_liesI (l := vs) ho
  exact ⟨p, c, rfl, hl, hb, hv', hg⟩

set_option maxHeartbeats 20000000
set_option maxRecDepth 1000000
theorem boxLives_walk (room : Int) (p : Option Addr) (c : Nat) (l : List (Int × Int)) (W : World) (hr : (Lit.int .i64 room).wf = true) (h : CameD W p c l) :
    Calls Try.prog 3 #[.int .i64 room, .slice p l.length c] W (Yes W) := by
  obtain ⟨r1, r2⟩ := int_rangeB hr
  obtain ⟨cap, hcap⟩ : ∃ cap : Nat, (cap : Int) = min (max room 0) 100 := ⟨(min (max room 0) 100).toNat, by omega⟩
  have hc1 : cap ≤ 100 := by omega
  have hre := h.reach
  have hle := h.le
  have CL := Lib.hid h.lies
  have CW := Lib.hid h.wf
  have N := Lib.hid (newI (cap : Int) cap W (by omega) (by omega))
  have HC := Lib.hid hcap
  clear h hr hcap r1 r2
  go_enter Try.func3, Try.ntmps3
  go_upto_region 1 with fail
  go_cut [0] (fun v wx => v = .int .i64 (cap : Int) ∧ wx = W)
  case first =>
    go_wp2_with fail
    go_meet
    case rel => exact ⟨by rw [HC.out], rfl⟩
  case rest =>
    obtain ⟨rfl, hcw⟩ := hcut
    cases hcw
    clear HC
    go_wp2_with fail
    refine N.out.mono ?_
    rintro e w1 ⟨a, C, rfl, ha, hC, hbx, hbel⟩
    have hal := hbx.alt; have hCl := hbx.lt
    have S0 : Hid (BL W w1.heap.size a C cap [] [] (.slice none 0 0) w1) := ⟨hbx, trivial, Que.nil _ _ _, hbel, Nat.le_refl _⟩
    generalize hB : w1.heap.size = B at S0 hal hCl
    clear N hbx hbel hB
    go_wp2_with fail
    go_loopw [6, 22] (fun v i wr => ∃ (j : Nat) (gs : List Nat) (vs : List Int), j ≤ l.length ∧ j ≤ 200 ∧ i = .int .i64 j ∧ BL W B a C cap gs vs v wr) (fun _ i _ => l.length - (intOf i).toNat)
    case atStart => exact ⟨0, [], [], Nat.zero_le _, Nat.zero_le _, rfl, S0.out⟩
    case round =>
      obtain ⟨j, gs, vs, hj, hj2, rfl, hbl⟩ := hrel
      have SS := Lib.hid hbl
      obtain ⟨pv, cv, rfl, hcv⟩ := hbl.que.slice
      clear hbl S0
      by_cases hjl : j < l.length
      · obtain ⟨b1, o1, rfl, _, r12⟩ := (CL.out.below SS.out.below).at (by omega)
        obtain ⟨r1, r2⟩ := r12 j hjl
        have hwf := CW.out j hjl
        have hjl' : (j : Int) < l.length := by omega
        clear r12
        generalize l.getD j (0, 0) = dd at r1 r2 hwf
        obtain ⟨O, X⟩ := dd
        simp only at r1 r2 hwf
        obtain ⟨_, x1, x2⟩ := hwf
        by_cases h200 : j < 200
        · have h200' : ¬ (j : Int) ≥ 200 := by omega
          have D0 := Lib.hid (heap_alloc_new wr (.cells #[.int .i64 O, .int .i64 X] 27))
          have S1 := Lib.hid (SS.out.later ((Below.refl _ wr).alloc (Nat.le_refl _) (.cells #[.int .i64 O, .int .i64 X] 27)))
          clear SS
          go_upto_block 2 with fail
          generalize hwa : wr.alloc (.cells #[.int .i64 O, .int .i64 X] 27) = wa at D0 S1 ⊢
          generalize wr.heap.size = Db at D0 ⊢
          clear hwa
          go_cut [6, 9] (fun v b wx => b = .bool true ∧ ∃ (gs' : List Nat) (vs' : List Int), BL W B a C cap gs' vs' v wx)
          case first =>
            have k1 : wa.cell? ⟨Db, 1, none⟩ = some (.int .i64 X) := (cell_of_row wa Db 1 _ _ _ D0.out).trans rfl
            have HDC : Hid (Db ≠ C) := S1.out.box.ne k1
            have hdl := (Array.getElem?_eq_some_iff.1 D0.out).1
            have HDL := Lib.hid hdl
            have hlen := S1.out.vals.len
            have hvc := S1.out.len
            have HLEN := Lib.hid hlen
            clear hdl
            cases h0 : ((IntKind.u64.wrap O).tmod 4 == 0) with
            | true =>
              by_cases hroom : vs.length < cap
              · have hlt : ((vs.length : Nat) : Int) < (cap : Int) := by omega
                have hgl : gs.length < cap := by omega
                have T := Lib.hid (PutI_yes a C cap gs X wa S1.out.box hgl)
                unfold encI at T
                clear hgl hlen
                go_wp2_with fail
                refine T.out.mono ?_
                rintro e w2 ⟨rfl, g, hg, hc, hbx, hgr⟩
                have S2 := Lib.hid hbx
                have V2 : Hid (Vals encI w2 (gs ++ [g]) (vs ++ [X])) := Vals.append (v2 := [X]) (g2 := [g]) ⟨hc, trivial⟩ (S1.out.vals.cell S1.out.box hgr)
                have Q2 : Hid (Que B (gs ++ [g]) w2 (.slice pv vs.length cv) vs) := S1.out.que.grown hgr hCl (fun x hx => by
                  rcases List.mem_append.1 hx with h | h
                  · exact .inl h
                  · rw [List.mem_singleton.1 h]; exact .inr hg)
                have L2 := Lib.hid (grown_below S1.out.below hC hgr)
                have Z2 : Hid (B ≤ w2.heap.size) := Nat.le_trans S1.out.size hgr.size
                have d2 := (hgr.block Db HDL.out (fun e => HDC.out (Option.some.inj e))).trans D0.out
                have k1 : w2.cell? ⟨Db, 1, none⟩ = some (.int .i64 X) := (cell_of_row w2 Db 1 _ _ _ d2).trans rfl
                clear hc hbx hgr T d2 hg
                go_wp2_with (at_builtin; refine wpList_que isOneI w2 rfl _ _ rfl B (gs ++ [g]) vs (.slice pv vs.length cv) rfl Q2.out X rfl (by omega) Z2.out V2.out.lt ?_)
                intro v3 w3 hq3 hk3
                have E3 : Hid (BL W B a C cap (gs ++ [g]) (vs ++ [X]) v3 w3) := ⟨S2.out.belowB hk3.below hCl hal, V2.out.mem hk3.kept, hq3, L2.out.trans (hk3.below.mono (by omega)), Nat.le_trans Z2.out hk3.below.size⟩
                clear hq3 hk3 k1
                go_wp2_with fail
                go_meet
                case rel => exact ⟨rfl, _, _, E3.out⟩
              · have hlt : ¬ ((vs.length : Nat) : Int) < (cap : Int) := by omega
                have hgl : cap ≤ gs.length := by omega
                have T := Lib.hid (PutI_no a C cap gs X wa S1.out.box hgl)
                unfold encI at T
                clear hgl hlen
                go_wp2_with fail
                refine T.out.mono ?_
                rintro e w2 ⟨rfl, hb2⟩
                have S2 := Lib.hid (S1.out.later hb2)
                clear T hb2
                go_wp2_with fail
                go_meet
                case rel => exact ⟨rfl, _, _, S2.out⟩
            | false =>
              cases h1 : ((IntKind.u64.wrap O).tmod 4 == 1) with
              | true =>
                cases vs with
                | nil =>
                  obtain rfl : gs = [] := List.eq_nil_of_length_eq_zero hlen
                  have T := Lib.hid (TakeI_no a C cap wa S1.out.box)
                  unfold encI at T
                  clear hlen
                  simp only [List.length_nil] at *
                  go_wp2_with fail
                  refine T.out.mono ?_
                  rintro e w2 ⟨rfl, rfl⟩
                  go_wp2_with fail
                  go_meet
                  case rel => exact ⟨rfl, _, _, S1.out⟩
                | cons x vs =>
                  obtain ⟨g, gs, rfl⟩ : ∃ g gs', gs = g :: gs' := by
                    cases gs with
                    | nil => simp at hlen
                    | cons g gs' => exact ⟨g, gs', rfl⟩
                  have T := Lib.hid (TakeI_yes a C cap gs g x wa S1.out.box S1.out.vals.1)
                  unfold encI at T
                  obtain ⟨_, _, gq, oq, rfl, _, _⟩ := S1.out.que.at (by simp)
                  clear hlen
                  go_wp2_with fail
                  refine T.out.mono ?_
                  rintro e w2 ⟨rfl, hbx, hgr⟩
                  have S2 := Lib.hid hbx
                  have V2 : Hid (Vals encI w2 gs vs) := Vals.cell S1.out.vals.2 S1.out.box hgr
                  have Q2 : Hid (Que B (g :: gs) w2 (.slice (some ⟨gq, oq, none⟩) (x :: vs).length cv) (x :: vs)) := S1.out.que.grown hgr hCl (fun _ h => .inl h)
                  have L2 := Lib.hid (grown_below S1.out.below hC hgr)
                  have Z2 : Hid (B ≤ w2.heap.size) := Nat.le_trans S1.out.size hgr.size
                  obtain ⟨_, _, _, _, e0, _, q0⟩ := Q2.out.at (by simp)
                  cases e0
                  have c0 : w2.cell? ⟨gq, oq, none⟩ = some (.int .i64 x) := q0 0 (by simp)
                  have Q3 : Hid (Que B gs w2 (.slice (if cv = 1 then some ⟨gq, oq, none⟩ else some ⟨gq, oq + 1, none⟩) vs.length (cv - 1)) vs) := Q2.out.cut.keep (Nat.le_refl _) (fun _ _ _ _ => rfl) (fun _ h => .inl (List.mem_cons_of_mem _ h))
                  clear hbx hgr T q0 Q2
                  simp only [List.length_cons] at *
                  by_cases hc1 : cv = 1
                  · subst hc1
                    rw [if_pos rfl] at Q3
                    obtain rfl : vs = [] := List.eq_nil_of_length_eq_zero (by omega)
                    have E3 : Hid (BL W B a C cap gs [] (.slice (some ⟨gq, oq, none⟩) 0 0) w2) := ⟨S2.out, V2.out, Q3.out, L2.out, Z2.out⟩
                    clear Q3 S2 V2 L2 Z2
                    simp only [List.length_nil] at *
                    go_wp2_with fail
                    go_meet
                    case rel => exact ⟨rfl, _, _, E3.out⟩
                  · rw [if_neg hc1] at Q3
                    have E3 : Hid (BL W B a C cap gs vs (.slice (some ⟨gq, oq + 1, none⟩) vs.length (cv - 1)) w2) := ⟨S2.out, V2.out, Q3.out, L2.out, Z2.out⟩
                    go_wp2_with fail
                    go_meet
                    case rel => exact ⟨rfl, _, _, E3.out⟩
              | false =>
                cases h2 : ((IntKind.u64.wrap O).tmod 4 == 2) with
                | true =>
                  have PL := Lib.hid (pull_is a C cap gs vs X wa S1.out.box S1.out.vals (by omega))
                  unfold PullTo encI at PL
                  by_cases hk : 0 ≤ X ∧ X < vs.length
                  · obtain ⟨n, rfl⟩ := Int.eq_ofNat_of_zero_le hk.1
                    have hi : inK (n : Int) vs.length = true := by simp [inK]; omega
                    have hnv : n < vs.length := by omega
                    have hx0 : (0 : Int) ≤ (n : Int) := by omega
                    have hx1 : (n : Int) < ((vs.length : Nat) : Int) := by omega
                    have LE : Hid (leftK (n : Int) vs.length vs = vs.eraseIdx n) := by
                      show leftK (n : Int) vs.length vs = vs.eraseIdx n
                      unfold leftK; rw [if_pos hk, List.take_length]; simp
                    rw [hi] at PL
                    simp only [if_true, Int.toNat_natCast] at PL
                    obtain ⟨_, _, gq, oq, rfl, _, _⟩ := S1.out.que.at (by rintro rfl; simp at hnv)
                    generalize hy : vs.getD n 0 = y at PL
                    have HY := Lib.hid hy
                    clear hk hi hy hlen
                    go_wp2_with fail
                    refine PL.out.mono ?_
                    rintro e w2 ⟨rfl, hbx, hvl, hgr⟩
                    have S2 := Lib.hid hbx; have V2 := Lib.hid hvl
                    have Q2 : Hid (Que B gs w2 (.slice (some ⟨gq, oq, none⟩) vs.length cv) vs) := S1.out.que.grown hgr hCl (fun _ h => .inl h)
                    have L2 := Lib.hid (grown_below S1.out.below hC hgr)
                    have Z2 : Hid (B ≤ w2.heap.size) := Nat.le_trans S1.out.size hgr.size
                    have d2 := (hgr.block Db HDL.out (fun e => HDC.out (Option.some.inj e))).trans D0.out
                    have k1 : w2.cell? ⟨Db, 1, none⟩ = some (.int .i64 (n : Int)) := (cell_of_row w2 Db 1 _ _ _ d2).trans rfl
                    obtain ⟨_, _, _, _, e0, _, q0⟩ := Q2.out.at (by rintro rfl; simp at hnv)
                    cases e0
                    have c0 := q0 n hnv
                    rw [HY.out] at c0
                    have D2 := Lib.hid d2
                    clear hbx hvl hgr PL q0 d2
                    go_wp2_with fail
                    have d2 := D2.out
                    have HS := d2
                    have wr1 : IntKind.i64.wrap ((n : Int) + 1) = ((n + 1 : Nat) : Int) := by rw [IntWalk.i64_in _ ⟨by omega, by omega⟩]; simp
                    refine rg_calmQ (by kernel_rfl) rfl (S := fun V => V.heap[Db]? = some (.cells #[.int .i64 O, .int .i64 (n : Int)] 27 (0, 0))) ?_
                    refine rgd_pure 0 (some 129) rfl rfl (.slice (some ⟨gq, oq, none⟩) vs.length cv) (by kernel_rfl) (by kernel_rfl) (by kernel_rfl) (fun _ _ _ _ h => h) (by kernel_rfl) (exec_is _ (.inl rfl) _ (by kernel_rfl)) HS ?_
                    refine rgd_pure 2 (some 131) rfl rfl (.pointer (some ⟨Db, 1, none⟩)) (by kernel_rfl) (by kernel_rfl) (by kernel_rfl) (fun _ _ _ _ h => h) (by kernel_rfl) (fun _ => by kernel_rfl) HS ?_
                    refine rgd_load 3 (some 132) rfl rfl (by kernel_rfl) (by kernel_rfl) (by kernel_rfl) (fun _ _ _ _ h => h) (by kernel_rfl) _ _ rfl Try.underlying3 rfl ⟨Db, 1, none⟩ (.int .i64 (n : Int)) (by kernel_rfl) (fun w h => (cell_of_row w Db 1 _ _ _ h).trans rfl) HS ?_
                    refine rgd_pure 4 (some 133) rfl rfl (.pointer (some ⟨Db, 1, none⟩)) (by kernel_rfl) (by kernel_rfl) (by kernel_rfl) (fun _ _ _ _ h => h) (by kernel_rfl) (fun _ => by kernel_rfl) HS ?_
                    refine rgd_load 5 (some 134) rfl rfl (by kernel_rfl) (by kernel_rfl) (by kernel_rfl) (fun _ _ _ _ h => h) (by kernel_rfl) _ _ rfl Try.underlying3 rfl ⟨Db, 1, none⟩ (.int .i64 (n : Int)) (by kernel_rfl) (fun w h => (cell_of_row w Db 1 _ _ _ h).trans rfl) HS ?_
                    refine rgd_pure 6 (some 135) rfl rfl (.int .i64 ((n + 1 : Nat) : Int)) (by kernel_rfl) (by kernel_rfl) (by kernel_rfl) (fun _ _ _ _ h => h) (by kernel_rfl) (exec_addI _ _ _ _ rfl (n : Int) 1 _ wr1 (by kernel_rfl) (by kernel_rfl)) HS ?_
                    refine rgd_call 1 (some 130) (by kernel_rfl) rfl rfl (by kernel_rfl) 12 #[.slice (some ⟨gq, oq, none⟩) vs.length cv] (by kernel_rfl) (que_clone B gs _ _ vs (Q2.out.below ((Below.refl _ _).drew)) (by rintro rfl; simp at hnv) (by omega)) ?_
                    rintro e w3 ⟨g3, cap3, rfl, ho3, hb3⟩
                    have HS : w3.heap[Db]? = some (.cells #[.int .i64 O, .int .i64 (n : Int)] 27 (0, 0)) := (hb3.block Db (Array.getElem?_eq_some_iff.1 d2).1).trans d2
                    refine ⟨_, rfl, HS, ?_⟩
                    refine rgd_call 7 (some 136) (by kernel_rfl) rfl rfl (by kernel_rfl) 11 #[.slice (some ⟨g3, 0, none⟩) vs.length cap3, .int .i64 (n : Int), .int .i64 ((n + 1 : Nat) : Int)] (by kernel_rfl) (own_delete w2.heap.size B (leftK (n : Int) gs.length gs) vs g3 cap3 n w3 ho3 hnv Z2.out (fun x hx => V2.out.lt x hx)) ?_
                    rintro e w4 ⟨v4, rfl, hq4, hb4⟩
                    have hbb : Below w2.heap.size w2 w4 := (((Below.refl _ w2).drew).trans hb3).trans hb4
                    have HS : w4.heap[Db]? = some (.cells #[.int .i64 O, .int .i64 (n : Int)] 27 (0, 0)) := (hb4.block Db (Array.getElem?_eq_some_iff.1 d2).1).trans HS
                    refine ⟨_, rfl, HS, ?_⟩
                    refine rgd_pure 8 (some 6) rfl rfl (v4) (by kernel_rfl) (by kernel_rfl) (by kernel_rfl) (fun _ _ _ _ h => h) (by kernel_rfl) (exec_is _ (.inr rfl) _ (by kernel_rfl)) HS ?_
                    refine wpAnyH_done (by kernel_rfl) ?_ _
                    have Q4 := Lib.hid hq4; have BB := Lib.hid hbb
                    clear hq4 hbb HS hb4 hb3 ho3 d2 wr1
                    simp only [Act.put, List.setIfInBounds_toArray, List.set_cons_zero, List.set_cons_succ]
                    go_wp2_with fail
                    go_meet
                    case rel => exact ⟨rfl, _, _, S2.out.below BB.out, V2.out.below BB.out, by have e := LE.out; rw [e]; exact Q4.out, thenB L2.out (Nat.le_refl _) BB.out, Nat.le_trans Z2.out BB.out.size⟩
                  · have hi : inK X vs.length = false := by simp [inK]; omega
                    have e1 : leftK X gs.length gs = gs := by unfold leftK; rw [if_neg (by omega), List.take_length]
                    have e2 : leftK X vs.length vs = vs := by unfold leftK; rw [if_neg hk, List.take_length]
                    rw [hi, e1, e2] at PL
                    simp only [Bool.false_eq_true, if_false] at PL
                    clear hi e1 e2 hlen
                    by_cases hx0 : 0 ≤ X
                    · have hx1 : ¬ X < ((vs.length : Nat) : Int) := fun h => hk ⟨hx0, h⟩
                      have hx2 : decide (X < ((vs.length : Nat) : Int)) = false := decide_eq_false hx1
                      clear hk
                      go_wp2_with fail
                      refine PL.out.mono ?_
                      rintro e w2 ⟨rfl, hbx, hvl, hgr⟩
                      have Q2 : Hid (Que B gs w2 (.slice pv vs.length cv) vs) := S1.out.que.grown hgr hCl (fun _ h => .inl h)
                      have L2 := Lib.hid (grown_below S1.out.below hC hgr)
                      have Z2 : Hid (B ≤ w2.heap.size) := Nat.le_trans S1.out.size hgr.size
                      have S2 : Hid (BL W B a C cap gs vs (.slice pv vs.length cv) w2) := ⟨hbx, hvl, Q2.out, L2.out, Z2.out⟩
                      have d2 := (hgr.block Db HDL.out (fun e => HDC.out (Option.some.inj e))).trans D0.out
                      have k1 : w2.cell? ⟨Db, 1, none⟩ = some (.int .i64 X) := (cell_of_row w2 Db 1 _ _ _ d2).trans rfl
                      clear hbx hvl hgr PL d2 Q2 L2 Z2
                      go_wp2_with fail
                      go_meet
                      case rel => exact ⟨rfl, _, _, S2.out⟩
                    · have hx1 : X < 0 := by omega
                      clear hk
                      go_wp2_with fail
                      refine PL.out.mono ?_
                      rintro e w2 ⟨rfl, hbx, hvl, hgr⟩
                      have Q2 : Hid (Que B gs w2 (.slice pv vs.length cv) vs) := S1.out.que.grown hgr hCl (fun _ h => .inl h)
                      have L2 := Lib.hid (grown_below S1.out.below hC hgr)
                      have Z2 : Hid (B ≤ w2.heap.size) := Nat.le_trans S1.out.size hgr.size
                      have S2 : Hid (BL W B a C cap gs vs (.slice pv vs.length cv) w2) := ⟨hbx, hvl, Q2.out, L2.out, Z2.out⟩
                      have d2 := (hgr.block Db HDL.out (fun e => HDC.out (Option.some.inj e))).trans D0.out
                      have k1 : w2.cell? ⟨Db, 1, none⟩ = some (.int .i64 X) := (cell_of_row w2 Db 1 _ _ _ d2).trans rfl
                      clear hbx hvl hgr PL d2 Q2 L2 Z2
                      go_wp2_with fail
                      go_meet
                      case rel => exact ⟨rfl, _, _, S2.out⟩
                | false =>
                    have LS := Lib.hid (list_lies a C cap gs vs wa S1.out.box S1.out.vals (by omega))
                    clear hlen
                    go_wp2_with fail
                    refine LS.out.mono ?_
                    rintro e w2 ⟨p2, c2, rfl, hl, hbx, hvl, hgr⟩
                    have Q2 : Hid (Que B gs w2 (.slice pv vs.length cv) vs) := S1.out.que.grown hgr hCl (fun _ h => .inl h)
                    have L2 := Lib.hid (grown_below S1.out.below hC hgr)
                    have Z2 : Hid (B ≤ w2.heap.size) := Nat.le_trans S1.out.size hgr.size
                    have S2 : Hid (BL W B a C cap gs vs (.slice pv vs.length cv) w2) := ⟨hbx, hvl, Q2.out, L2.out, Z2.out⟩
                    have EQ := Lib.hid (equalI_any p2 pv c2 cv vs w2 hl Q2.out.lies (by omega))
                    clear hbx hvl hgr LS hl Q2 L2 Z2
                    go_wp2_with fail
                    refine EQ.out.mono ?_
                    rintro e w3 ⟨rfl, hb3⟩
                    have S3 := Lib.hid (S2.out.later hb3)
                    clear hb3 EQ S2
                    go_wp2_with fail
                    go_meet
                    case rel => exact ⟨rfl, _, _, S3.out⟩
          case rest =>
            obtain ⟨rfl, gs2, vs2, hbl⟩ := hcut
            have S1 := Lib.hid hbl
            obtain ⟨p3, c3, rfl, hc3⟩ := hbl.que.slice
            have hlen := hbl.vals.len
            have hvc := hbl.len
            have LN := Lib.hid (lenI a C cap gs2 _ hbl.box)
            have RM := Lib.hid (roomI a C cap gs2 _ hbl.box (by omega))
            have LS := Lib.hid (list_lies a C cap gs2 vs2 _ hbl.box hbl.vals (by omega))
            have e : ((cap - gs2.length : Nat) : Int) = (cap : Int) - (vs2.length : Int) := by omega
            rw [e] at RM
            rw [hlen] at LN
            clear hbl e hlen D0
            go_wp2_with fail
            refine LN.out.mono ?_
            rintro e w' ⟨rfl, rfl⟩
            clear LN
            go_wp2_with fail
            refine RM.out.mono ?_
            rintro e w' ⟨rfl, rfl⟩
            clear RM
            go_wp2_with fail
            refine LS.out.mono ?_
            rintro e w2 ⟨p2, c2, rfl, hl, hbx, hvl, hgr⟩
            have Q2 : Hid (Que B gs2 w2 (.slice p3 vs2.length c3) vs2) := S1.out.que.grown hgr hCl (fun _ h => .inl h)
            have S2 : Hid (BL W B a C cap gs2 vs2 (.slice p3 vs2.length c3) w2) := ⟨hbx, hvl, Q2.out, grown_below S1.out.below hC hgr, Nat.le_trans S1.out.size hgr.size⟩
            have EQ := Lib.hid (equalI_any p2 p3 c2 c3 vs2 w2 hl Q2.out.lies (by omega))
            clear hbx hvl hgr LS hl Q2 S1
            go_wp2_with fail
            refine EQ.out.mono ?_
            rintro e w3 ⟨rfl, hb3⟩
            have S3 := Lib.hid (S2.out.later hb3)
            clear hb3 EQ S2
            go_wp2_with fail
            go_roundw
            case rel => exact ⟨j + 1, gs2, vs2, by omega, by omega, by go_num, S3.out⟩
            case measure => simp [intOf]; omega
        · have h200' : (j : Int) ≥ 200 := by omega
          have S1 := Lib.hid (SS.out.later ((Below.refl _ wr).alloc (Nat.le_refl _) (.cells #[.int .i64 O, .int .i64 X] 27)))
          clear SS
          go_wp2_with fail
          refine (awake7 _).mono ?_
          rintro e w9 ⟨rfl, hb9⟩
          have B9 := Lib.hid (thenB S1.out.below (Nat.le_refl _) hb9)
          clear hb9 S1
          go_wp2
          go_ret
          exact ⟨rfl, B9.out⟩
      · obtain rfl : j = l.length := by omega
        have hjl' : ¬ ((l.length : Nat) : Int) < l.length := by omega
        go_wp2_with fail
        refine (awake7 _).mono ?_
        rintro e w9 ⟨rfl, hb9⟩
        have B9 := Lib.hid (thenB SS.out.below (Nat.le_refl _) hb9)
        clear hb9 SS
        go_wp2
        go_ret
        exact ⟨rfl, B9.out⟩
end Go.Proofs.Ytboilelkkiimoaa
