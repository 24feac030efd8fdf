/- The walk of SuggestWay. -/
import Derived.Test.YtnlechjpiphmiaaDoorSugAwake
import Derived.Test.YtnlechjpiphmiaaDoorSugWay0
import Derived.Deep.CutBlock
import Derived.Deep.DeepCutAuto
namespace Go.Proofs.YtnlechjpiphmiaaDoor
open Go Go.RowKit
set_option linter.unusedVariables false

theorem exec_minI {P : Program} {o : Oper} {a : Act} (x y : Operand) (tys : Array TypeId) (ho : o.op = .call { callee := .builtin .min, args := #[x, y], argTypes := tys }) (X Y R : Int) (hR : min X Y = R) (hx : a.eval x = .int .i64 X) (hy : a.eval y = .int .i64 Y) (w : World) :
    (execOp a.eval o).run P w = .ok (.value (.int .i64 R)) w := by
  have e : (#[x, y] : Array Operand).map a.eval = #[.int .i64 X, .int .i64 Y] := by simp only [List.map_toArray, List.map_cons, List.map_nil, hx, hy]
  have hm : (Builtin.min_ tys o.type #[.int .i64 X, .int .i64 Y]).run P w = .ok (.int .i64 R) w := by
    rw [run_min_int2, show (if Y < X then Y else X) = R by split <;> omega]
  unfold execOp
  simp only [ho]
  unfold resolve
  simp only [e]
  simp only [Sem.run_bind, Sem.run_pure, Result.andThen_ok, invoke]
  exact run_value_of hm

theorem far_none (a b : List Int) : farL a b = 0 ↔ a = b := by
  unfold farL
  rw [Sug.dp_none (fnL a) (fnL b) _ a.length b.length (Nat.le_refl _)]
  constructor
  · rintro ⟨h1, h2⟩
    refine List.ext_getElem h1 fun t ht hb => ?_
    have := h2 t ht
    simpa [fnL, List.getD, List.getElem?_eq_getElem ht, List.getElem?_eq_getElem hb] using this
  · rintro rfl
    exact ⟨rfl, fun _ _ => rfl⟩
theorem far_sym (a b : List Int) : farL a b = farL b a := Sug.dp_sym (fnL a) (fnL b) _ _ _ (Nat.le_refl _)
theorem far_low (a b : List Int) : max a.length b.length ≤ farL a b + min a.length b.length := by
  have := Sug.dp_low (fnL a) (fnL b) _ a.length b.length (Nat.le_refl _)
  unfold farL; omega
theorem far_high (a b : List Int) : farL a b ≤ max a.length b.length := Sug.dp_high (fnL a) (fnL b) _ _ _ (Nat.le_refl _)
set_option maxHeartbeats 20000000 in
set_option maxRecDepth 1000000 in
theorem suggestWay_walk (s t : ByteArray) (W : World) (hs : s.size ≤ 140737488351232) (ht : t.size ≤ 140737488351232) (hT : Shapes W) :
    Calls Tryd.prog 4 #[.string s, .string t] W (Yes W) := by
  obtain ⟨m, hm0⟩ : ∃ m, min s.size 60 = m := ⟨_, rfl⟩
  obtain ⟨n, hn0⟩ : ∃ n, min t.size 60 = n := ⟨_, rfl⟩
  have hm : m ≤ s.size := by omega
  have hn : n ≤ t.size := by omega
  have hmi : min (s.size : Int) 60 = (m : Int) := by omega
  have hni : min (t.size : Int) 60 = (n : Int) := by omega
  have hss : (s.extract 0 m).size = m := by rw [ByteArray.size_extract]; omega
  have hts : (t.extract 0 n).size = n := by rw [ByteArray.size_extract]; omega
  have hm60 : m ≤ 60 := by omega
  have hn60 : n ≤ 60 := by omega
  have TT := Lib.hid hT
  have RS := Lib.hid (fun w => refSigns_is (s.extract 0 m) w (by omega))
  have RT := Lib.hid (fun w => refSigns_is (t.extract 0 n) w (by omega))
  have DST := Lib.hid (fun w hw => dist_is (s.extract 0 m) (t.extract 0 n) w (by omega) (by omega) hw)
  have DTS := Lib.hid (fun w hw => dist_is (t.extract 0 n) (s.extract 0 m) w (by omega) (by omega) hw)
  have hla := Utf.sgs_len (s.extract 0 m) (s.extract 0 m).size 0 (Nat.zero_le _)
  have hlb := Utf.sgs_len (t.extract 0 n) (t.extract 0 n).size 0 (Nat.zero_le _)
  unfold sgOf at DST DTS
  generalize Utf.sgs (s.extract 0 m) (s.extract 0 m).size 0 = a at RS DST DTS hla
  generalize Utf.sgs (t.extract 0 n) (t.extract 0 n).size 0 = b at RT DST DTS hlb
  have hla2 : a.length ≤ 60 := by omega
  have hlb2 : b.length ≤ 60 := by omega
  have HSS := Lib.hid hss; have HTS := Lib.hid hts
  clear hla hlb hm0 hn0 hT hss hts
  go_enter Tryd.func4, Tryd.ntmps4
  go_upto_region 1 with fail
  go_cut [5, 6] (fun u v wx => ∃ q1 c1 q2 c2, u = .slice q1 a.length c1 ∧ v = .slice q2 b.length c2 ∧ LiesI wx q1 a ∧ LiesI wx q2 b ∧ Below W.heap.size W wx)
  case first =>
    refine rg_last (by kernel_rfl) rfl (S := fun _ => True) ?_
    refine rgd_pure 0 (some 10) rfl rfl (.string s) (by kernel_rfl) (by kernel_rfl) (by kernel_rfl) (fun _ _ _ _ h => h) (by kernel_rfl) (exec_is _ (.inl rfl) _ (by kernel_rfl)) trivial ?_
    refine rgd_pure 1 (some 11) rfl rfl (.string s) (by kernel_rfl) (by kernel_rfl) (by kernel_rfl) (fun _ _ _ _ h => h) (by kernel_rfl) (exec_is _ (.inl rfl) _ (by kernel_rfl)) trivial ?_
    refine rgd_pure 2 (some 12) rfl rfl (.int .i64 ((s.size : Nat) : Int)) (by kernel_rfl) (by kernel_rfl) (by kernel_rfl) (fun _ _ _ _ h => h) (by kernel_rfl) (fun _ => by kernel_rfl) trivial ?_
    refine rgd_pure 3 (some 13) rfl rfl (.int .i64 ((m : Nat) : Int)) (by kernel_rfl) (by kernel_rfl) (by kernel_rfl) (fun _ _ _ _ h => h) (by kernel_rfl) (exec_minI _ _ _ rfl (s.size : Int) 60 _ hmi (by kernel_rfl) (by kernel_rfl)) trivial ?_
    refine rgd_pure 4 (some 14) rfl rfl (.string (s.extract 0 m)) (by kernel_rfl) (by kernel_rfl) (by kernel_rfl) (fun _ _ _ _ h => h) (by kernel_rfl) (exec_cutToS _ _ _ rfl Tryd.underlying9 s m (by kernel_rfl) (by kernel_rfl) hm) trivial ?_
    refine rgd_pure 6 (some 16) rfl rfl (.string t) (by kernel_rfl) (by kernel_rfl) (by kernel_rfl) (fun _ _ _ _ h => h) (by kernel_rfl) (exec_is _ (.inl rfl) _ (by kernel_rfl)) trivial ?_
    refine rgd_pure 7 (some 17) rfl rfl (.string t) (by kernel_rfl) (by kernel_rfl) (by kernel_rfl) (fun _ _ _ _ h => h) (by kernel_rfl) (exec_is _ (.inl rfl) _ (by kernel_rfl)) trivial ?_
    refine rgd_pure 8 (some 18) rfl rfl (.int .i64 ((t.size : Nat) : Int)) (by kernel_rfl) (by kernel_rfl) (by kernel_rfl) (fun _ _ _ _ h => h) (by kernel_rfl) (fun _ => by kernel_rfl) trivial ?_
    refine rgd_pure 9 (some 19) rfl rfl (.int .i64 ((n : Nat) : Int)) (by kernel_rfl) (by kernel_rfl) (by kernel_rfl) (fun _ _ _ _ h => h) (by kernel_rfl) (exec_minI _ _ _ rfl (t.size : Int) 60 _ hni (by kernel_rfl) (by kernel_rfl)) trivial ?_
    refine rgd_pure 10 (some 20) rfl rfl (.string (t.extract 0 n)) (by kernel_rfl) (by kernel_rfl) (by kernel_rfl) (fun _ _ _ _ h => h) (by kernel_rfl) (exec_cutToS _ _ _ rfl Tryd.underlying9 t n (by kernel_rfl) (by kernel_rfl) hn) trivial ?_
    refine rgd_call 5 (some 15) (by kernel_rfl) rfl rfl (by kernel_rfl) 16 #[.string (s.extract 0 m)] (by kernel_rfl) (RS.out _) ?_
    rintro e w1 ⟨v1, rfl, ho1, hb1⟩
    obtain ⟨_, q1, c1, rfl, _, hl1, _⟩ := own_liesI ho1
    refine ⟨_, rfl, trivial, ?_⟩
    refine rgd_call 11 (some 21) (by kernel_rfl) rfl rfl (by kernel_rfl) 16 #[.string (t.extract 0 n)] (by kernel_rfl) (RT.out _) ?_
    rintro e w2 ⟨v2, rfl, ho2, hb2⟩
    obtain ⟨_, q2, c2, rfl, _, hl2, _⟩ := own_liesI ho2
    refine ⟨_, rfl, trivial, ?_⟩
    refine rgd_pure 12 (some 5) rfl rfl (.slice q1 a.length c1) (by kernel_rfl) (by kernel_rfl) (by kernel_rfl) (fun _ _ _ _ h => h) (by kernel_rfl) (exec_is _ (.inr rfl) _ (by kernel_rfl)) trivial ?_
    refine rgd_pure 13 (some 6) rfl rfl (.slice q2 b.length c2) (by kernel_rfl) (by kernel_rfl) (by kernel_rfl) (fun _ _ _ _ h => h) (by kernel_rfl) (exec_is _ (.inr rfl) _ (by kernel_rfl)) trivial ?_
    refine wpAnyH_done (by kernel_rfl) ?_ _
    have E : Hid (LiesI w2 q1 a ∧ LiesI w2 q2 b ∧ Below W.heap.size W w2) := ⟨hl1.below hb2, hl2, thenBelow (thenBelow (Below.refl _ W).drew hb1) hb2⟩
    simp only [Act.put, List.setIfInBounds_toArray, List.set_cons_zero, List.set_cons_succ]
    clear ho1 hb1 hl1 ho2 hb2 hl2
    go_wp2_with fail
    go_meet
    case rel => exact ⟨_, _, _, _, rfl, rfl, E.out⟩
  case rest =>
    obtain ⟨q1, c1, q2, c2, rfl, rfl, hl1, hl2, hb⟩ := hcut
    have L1 := Lib.hid hl1; have L2 := Lib.hid hl2; have B0 := Lib.hid hb
    clear hl1 hl2 hb RS RT
    go_upto_region 2 with fail
    go_quiet (fail)
    have DW : Hid (∀ V, Below W.heap.size W V → Shapes V) := fun V hV => TT.out.below hV
    obtain ⟨F, hF⟩ : ∃ F, farL a b = F := ⟨_, rfl⟩
    have f1 := far_none a b
    have f2 := far_sym a b
    have f3 := far_low a b
    have f4 := far_high a b
    rw [hF] at f1 f2 f3 f4
    have hF60 : F ≤ 60 := by omega
    have HZ : Hid (((F : Int) == 0) = decide (a = b)) := by
      show ((F : Int) == 0) = decide (a = b)
      by_cases h : a = b
      · rw [decide_eq_true h, f1.2 h]; rfl
      · rw [decide_eq_false h, beq_eq_false_iff_ne]
        intro h2
        exact h (f1.1 (by omega))
    have BD : Below wc.heap.size wc (wc.drewN nq) := ⟨rfl, rfl, rfl, Nat.le_refl _, fun _ _ => rfl⟩
    have B1 := Lib.hid (thenBelow B0.out BD)
    have M1 := Lib.hid (L1.out.below BD); have M2 := Lib.hid (L2.out.below BD)
    clear BD L1 L2 B0
    have D1 := Lib.hid (DST.out _ (DW.out _ B1.out))
    rw [hF] at D1
    have D2 := Lib.hid (fun V hV => DTS.out V hV)
    rw [← f2] at D2
    obtain ⟨bb, hbb⟩ : ∃ bb, decide (a = b) = bb := ⟨_, rfl⟩
    have hz := HZ.out
    rw [hbb] at hz
    have EQ := Lib.hid (fun V (h1 : LiesI V q1 a) (h2 : LiesI V q2 b) => equalI_gen q1 q2 c1 c2 a b V h1 h2 (by omega) (by omega))
    rw [hbb] at EQ
    obtain ⟨mx, hmx0⟩ : ∃ mx, max a.length b.length = mx := ⟨_, rfl⟩
    obtain ⟨mn, hmn0⟩ : ∃ mn, min a.length b.length = mn := ⟨_, rfl⟩
    have hmx : max (a.length : Int) (b.length : Int) = (mx : Int) := by omega
    have hmn : min (a.length : Int) (b.length : Int) = (mn : Int) := by omega
    have hge : (F : Int) ≥ (mx : Int) - (mn : Int) := by omega
    have hle : (F : Int) ≤ (mx : Int) := by omega
    have hmx60 : mx ≤ 60 := by omega
    have hmn60 : mn ≤ 60 := by omega
    clear f1 f2 f3 f4 hF DST DTS hmi hni HZ hbb hmx0 hmn0 HSS HTS
    generalize wc.drewN nq = w1 at B1 M1 M2 D1 ⊢
    go_wp2_with fail
    refine D1.out.mono ?_
    rintro e w2 ⟨rfl, hb2⟩
    have B2 := Lib.hid (thenBelow B1.out hb2)
    have EQ2 := Lib.hid (EQ.out w2 (M1.out.below hb2) (M2.out.below hb2))
    clear hb2 D1 EQ M1 M2 B1
    go_wp2_with fail
    refine EQ2.out.mono ?_
    rintro e w3 ⟨rfl, hb3⟩
    have B3 := Lib.hid (thenBelow B2.out hb3)
    have D3 := Lib.hid (D2.out w3 (DW.out _ B3.out))
    clear hb3 EQ2 D2 B2
    go_wp2_with fail
    refine D3.out.mono ?_
    rintro e w4 ⟨rfl, hb4⟩
    have B4 := Lib.hid (thenBelow B3.out hb4)
    have AW := Lib.hid (awake32 w4 (DW.out _ B4.out))
    clear hb4 D3 B3
    go_wp2_with fail
    refine AW.out.mono ?_
    rintro e w9 ⟨rfl, hb9⟩
    have B9 := Lib.hid (thenBelow B4.out hb9)
    clear hb9
    go_wp2
    go_ret
    exact ⟨by simp, B9.out⟩
end Go.Proofs.YtnlechjpiphmiaaDoor
