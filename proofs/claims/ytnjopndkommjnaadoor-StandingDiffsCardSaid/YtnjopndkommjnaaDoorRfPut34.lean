/- The document's put: a change behind those whose names are not greater. -/
import Derived.Test.YtnjopndkommjnaaDoorChgApp
import Derived.Test.YtnjopndkommjnaaDoorStdPlain
namespace Go.Proofs.YtnjopndkommjnaaDoor
open Go Go.RowKit
set_option linter.unusedVariables false
set_option maxRecDepth 1000000

theorem ccl_drop : ∀ (L : List Chg) (k : Nat), ccl (L.drop k) = (ccl L).drop (k * 3)
  | [], k => by simp [ccl]
  | x :: L, 0 => by simp [ccl]
  | x :: L, k + 1 => by
    have h := ccl_drop L k
    rw [List.drop_succ_cons, show ccl (x :: L) = x.cells ++ ccl L from rfl, h, show (k + 1) * 3 = x.cells.length + k * 3 by rw [Chg.cells_len]; omega, List.drop_length_add_append]
theorem ltB_asym {a b : ByteArray} (h : ltB a b = true) : ltB b a = false := by
  cases e : ltB b a with
  | false => rfl
  | true => have := lin_B.tr _ _ _ h e; rw [lin_B.irr] at this; cases this
theorem own_atCp {w : World} {B : Nat} {q : Option Addr} {c : Nat} {L : List Chg} (hr : w.ownsRow B 30 3 (.slice q L.length c) L.length (ccl L)) : ChgsAt w q L := by
  obtain ⟨p, d, e, _, h, _⟩ := own_atC hr
  injection e with e _ _
  rw [e]; exact h
def RetPut (w : World) (D : List Chg) (e : Ending) (w' : World) : Prop := ∃ v, e = .returned v ∧ w'.ownsRow w.heap.size 30 3 v D.length (ccl D) ∧ Below w.heap.size w w'
set_option maxHeartbeats 8000000 in
theorem refPutC_is (B0 : Nat) (q : Option Addr) (c : Nat) (l : List Chg) (x : Chg) (w : World) (hO : w.ownsRow B0 30 3 (.slice q l.length c) l.length (ccl l)) (hn : l.length ≤ 10000) :
    Calls Tryd.prog 25 #[.slice q l.length c, .agg x.cells.toArray] w (RetPut w (putC l x)) := by
  have HO := Lib.hid hO
  have HM := Lib.hid (own_atCp hO)
  clear hO
  go_enter Tryd.func25, Tryd.ntmps25
  go_wp2_with (refine wpList_gbox rfl _ rfl x.cells.toArray rfl ?_)
  intro g3 w1 l3 h3 hb1
  have B1 := Lib.hid hb1
  have R1 : Hid (w1.rangeAt g3 0 x.cells) := Lib.hid (by simpa using range_of_block h3)
  clear hb1 h3
  go_wp2_with fail
  go_loopw [5, 11] (fun pa i wr => ∃ j A : Nat, j ≤ l.length ∧ A ≤ j ∧ pa = .int .i64 A ∧ i = .int .i64 j ∧ Hid (atC (l.take j) x = A) ∧ Hid (Below w1.heap.size w1 wr)) (fun _ i _ => l.length - (RowKit.intOf i).toNat)
  case atStart => exact ⟨0, 0, Nat.zero_le _, Nat.le_refl _, rfl, rfl, Lib.hid rfl, Lib.hid (Below.refl _ _)⟩
  case round =>
    obtain ⟨j, A, hj, hA1, rfl, rfl, HA, BB⟩ := hrel
    by_cases hkl : j < l.length
    · have hkl' : (j : Int) < l.length := by omega
      obtain ⟨b, o, rfl, hlt, hr⟩ := (HM.out.below (thenBelow B1.out BB.out)).at hkl
      obtain ⟨k0, k1, k2⟩ := chg_cells hr
      have TK : Hid (atC (l.take (j + 1)) x = if ltB x.hit.id l[j].hit.id then A else j + 1) := Lib.hid (by
        rw [List.take_succ_eq_append_getElem hkl, atC_snoc, HA.out, List.length_take, Nat.min_eq_left (by omega)])
      have RX : Hid (wr.rangeAt g3 0 x.cells) := Lib.hid (range_below R1.out BB.out)
      clear hr hlt
      obtain ⟨y, hy⟩ : ∃ y, l[j] = y := ⟨_, rfl⟩
      rw [hy] at k0 k1 k2 TK
      clear hy
      obtain ⟨yk, yi, ys⟩ := y
      simp only at k0 k1 k2 TK
      have b7 := below_alloc wr (.cells #[.int .i64 yk, .string yi, .int .i64 ys] 30)
      have B7 := Lib.hid (thenBelow BB.out b7)
      have X7 := Lib.hid (range_below RX.out b7)
      obtain ⟨m0, m1, m2⟩ := chg_cells X7.out
      simp only [Nat.zero_add] at m0 m1 m2
      obtain ⟨xk, xi, xs⟩ := x
      simp only at m0 m1 m2 TK
      clear b7
      cases hlt : ltB xi yi with
      | true =>
        have hl1 : Op.bytesLess yi.toList xi.toList = false := ltB_asym hlt
        have hl2 : (yi.toList == xi.toList) = false := by
          rw [beq_eq_false_iff_ne]
          intro e
          have : ltB xi yi = false := by have := lin_B.irr xi; unfold ltB at *; rw [e]; exact this
          rw [hlt] at this; cases this
        rw [hlt, if_pos rfl] at TK
        clear hlt
        go_wp2
        go_roundw
        case rel => exact ⟨j + 1, A, by omega, by omega, by go_num, by go_num, TK, B7⟩
        case measure => simp [RowKit.intOf]; omega
      | false =>
        rw [hlt, if_neg (by decide)] at TK
        cases hlt2 : ltB yi xi with
        | true =>
          have hl1 : Op.bytesLess yi.toList xi.toList = true := hlt2
          clear hlt hlt2
          go_wp2
          go_roundw
          case rel => exact ⟨j + 1, j + 1, by omega, by omega, by go_num, by go_num, TK, B7⟩
          case measure => simp [RowKit.intOf]; omega
        | false =>
          obtain rfl := lin_B.tot _ _ hlt hlt2
          have hl1 : Op.bytesLess xi.toList xi.toList = false := hlt
          clear hlt hlt2
          go_wp2
          go_roundw
          case rel => exact ⟨j + 1, j + 1, by omega, by omega, by go_num, by go_num, TK, B7⟩
          case measure => simp [RowKit.intOf]; omega
    · obtain rfl : j = l.length := by omega
      have hkl' : ¬ ((l.length : Nat) : Int) < l.length := by omega
      rw [List.take_length] at HA
      have PX := HA
      have hA2 : A ≤ l.length := hA1
      clear HA HM hA1
      have R2 : Hid (wr.rangeAt g3 0 x.cells) := Lib.hid (range_below R1.out BB.out)
      have B2 := Lib.hid (thenBelow B1.out BB.out)
      have S2 := Lib.hid B2.out.size
      clear B1 BB R1
      rcases HO.out.2 with ⟨h1, h2⟩ | ⟨g, cap, cur, h1, hg1, hg2, hg3, _⟩
      · injection h1 with h1 _ hc0
        subst h1 hc0
        have hl0 : l = [] := List.eq_nil_of_length_eq_zero h2
        subst hl0
        obtain rfl : A = 0 := by simpa using hA2
        clear hkl' hkl hj h2 hA2
        obtain ⟨c0, c1, c2⟩ := chg_cells R2.out
        obtain ⟨xk, xi, xs⟩ := x
        simp only [Nat.zero_add] at c0 c1 c2
        go_wp2_with (at_builtin; refine wpList_chg wr rfl _ _ rfl w.heap.size 0 [] (.slice none 0 0) rfl ⟨rfl, .inl ⟨rfl, rfl⟩⟩ ⟨xk, xi, xs⟩ rfl (by omega) S2.out ?_)
        clear c0 c1 c2
        intro v6 w6 o6 g6
        have B6 := Lib.hid (B2.out.grown g6 S2.out (fun k hk => by cases hk))
        have O6 := Lib.hid o6
        clear o6 g6
        go_wp2_with (at_builtin; refine wpList_chgNone w6 rfl _ _ rfl w.heap.size _ _ _ rfl O6.out rfl ?_)
        go_wp2
        go_ret
        refine ⟨v6, rfl, ?_, B6.out⟩
        have h9 := O6.out
        simpa [putC, ccl] using h9
      · injection h1 with h1 _ hc0
        subst h1 hc0
        have hcap : A ≤ c := by omega
        have RW : Hid (w.rangeAt g 0 (ccl l)) := Lib.hid fun j u hu => by
          have hj : j < l.length * 3 := by rw [← ccl_length]; exact (List.getElem?_eq_some_iff.1 hu).1
          rw [Nat.zero_add, HO.out.cellAt j hj]; exact hu
        have RD : Hid (w.rangeAt g (A * 3) (ccl (l.drop A))) := Lib.hid fun j u hu => by
          rw [ccl_drop, List.getElem?_drop] at hu
          have := RW.out (A * 3 + j) u hu
          rwa [Nat.zero_add] at this
        have RT : Hid (w.rangeAt g 0 (ccl (l.take A))) := Lib.hid fun j u hu => by
          rw [ccl_take] at hu
          by_cases h5 : j < A * 3
          · rw [List.getElem?_take_of_lt h5] at hu; exact RW.out j u hu
          · rw [List.getElem?_eq_none (by rw [List.length_take]; omega)] at hu; cases hu
        have LT : Hid ((l.take A).length = A) := Lib.hid (by rw [List.length_take]; omega)
        have LD : Hid ((l.drop A).length = l.length - A) := Lib.hid (by rw [List.length_drop])
        have FIN : Hid (0 + A + 1 + (l.length - A) = (putC l x).length ∧ [] ++ ccl (l.take A) ++ x.cells ++ ccl (l.drop A) = ccl (putC l x)) := Lib.hid (by
          unfold putC
          rw [PX.out]
          refine ⟨by rw [List.length_append, List.length_cons, LT.out, LD.out]; omega, ?_⟩
          rw [ccl_append]
          simp [ccl])
        have RT2 := Lib.hid (range_below RT.out B2.out)
        clear hg1 hg2 RW RT
        obtain ⟨n, hn2⟩ : ∃ n, l.length = n := ⟨_, rfl⟩
        have HN := Lib.hid hn2
        go_wp2_with (at_builtin; refine wpList_chgs wr rfl _ _ rfl w.heap.size 0 [] (.slice none 0 0) rfl ⟨rfl, .inl ⟨rfl, rfl⟩⟩ g 0 A c (l.take A) LT.out rfl RT2.out (by omega) S2.out ?_)
        intro v5 w5 o5 g5
        have b5 : Below wr.heap.size wr w5 := ⟨g5.os, g5.tape, g5.output, g5.size, fun k hk => g5.block k hk (by rintro ⟨⟩)⟩
        have B5 := Lib.hid (B2.out.grown g5 S2.out (fun k hk => by cases hk))
        have R5 := Lib.hid (range_below R2.out b5)
        have HA1 : Hid (A + 1 ≤ 1000000) := Lib.hid (by omega)
        have O5 := Lib.hid o5; have S5 := Lib.hid B5.out.size
        clear o5 g5 b5 R2 RT2
        obtain ⟨c0, c1, c2⟩ := chg_cells R5.out
        obtain ⟨xk, xi, xs⟩ := x
        simp only [Nat.zero_add] at c0 c1 c2
        go_wp2_with (at_builtin; refine wpList_chg w5 rfl _ _ rfl w.heap.size A (ccl (l.take A)) v5 rfl O5.out ⟨xk, xi, xs⟩ rfl HA1.out S5.out ?_)
        clear c0 c1 c2
        intro v6 w6 o6 g6
        have B6 := Lib.hid (B5.out.grown g6 S5.out (fun k hk => (O5.out.lt k hk).1))
        have O6 := Lib.hid o6; have S6 := Lib.hid B6.out.size
        have RD6 := Lib.hid (range_below RD.out B6.out)
        clear o6 g6
        have HA2 : Hid (A + 1 + (n - A) ≤ 1000000) := Lib.hid (by omega)
        have LD2 := Lib.hid (LD.out.trans (by rw [HN.out] : l.length - A = n - A))
        have FIN2 : Hid (A + 1 + (n - A) = (putC l ⟨xk, xi, xs⟩).length ∧ ccl (l.take A) ++ Chg.cells ⟨xk, xi, xs⟩ ++ ccl (l.drop A) = ccl (putC l ⟨xk, xi, xs⟩)) := Lib.hid (by
          have h9 := FIN.out
          rw [Nat.zero_add, List.nil_append, HN.out] at h9
          exact h9)
        have hAn : A ≤ n := by omega
        clear FIN PX R5 HO RD LT LD hkl' hj hkl O5
        by_cases hcA : c = A
        · obtain rfl : c = A := hcA
          obtain rfl : n = c := by omega
          have RZ : Hid (w6.rangeAt g 0 (ccl (l.drop n))) := Lib.hid (by
            have h9 : l.drop n = [] := List.eq_nil_of_length_eq_zero (by rw [LD2.out]; omega)
            rw [h9]
            intro j u hu
            simp [ccl] at hu)
          have hz : n - n = 0 := Nat.sub_self n
          rw [hz] at LD2 HA2 FIN2
          clear RD6 hn2
          go_wp2_with (at_builtin; refine wpList_chgs w6 rfl _ _ rfl w.heap.size (n + 1) (ccl (l.take n) ++ Chg.cells ⟨xk, xi, xs⟩) v6 rfl O6.out g 0 0 0 (l.drop n) LD2.out rfl RZ.out HA2.out S6.out ?_)
          intro v7 w7 o7 g7
          have B7 := Lib.hid (B6.out.grown g7 S6.out (fun k hk => (O6.out.lt k hk).1))
          go_wp2
          go_ret
          refine ⟨v7, rfl, ?_, B7.out⟩
          rw [← FIN2.out.1, ← FIN2.out.2, List.append_assoc]
          exact o7
        · clear hn2
          go_wp2_with (at_builtin; refine wpList_chgs w6 rfl _ _ rfl w.heap.size (A + 1) (ccl (l.take A) ++ Chg.cells ⟨xk, xi, xs⟩) v6 rfl O6.out g (A * 3) (n - A) (c - A) (l.drop A) LD2.out rfl RD6.out HA2.out S6.out ?_)
          intro v7 w7 o7 g7
          have B7 := Lib.hid (B6.out.grown g7 S6.out (fun k hk => (O6.out.lt k hk).1))
          go_wp2
          go_ret
          refine ⟨v7, rfl, ?_, B7.out⟩
          rw [← FIN2.out.1, ← FIN2.out.2, List.append_assoc]
          exact o7
end Go.Proofs.YtnjopndkommjnaaDoor
