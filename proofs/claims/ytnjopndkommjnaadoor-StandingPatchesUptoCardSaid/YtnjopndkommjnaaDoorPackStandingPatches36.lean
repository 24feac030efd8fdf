/- The statement StandingPatches, proved for every input that its row reads: part 36 of 54. -/
import Derived.Test.YtnjopndkommjnaaDoorPackStandingPatches23
import Derived.Test.YtnjopndkommjnaaDoorPackStandingPatches32
import Derived.Deep.LoopGhost
/- The document's sort of hits. -/
namespace Go.Proofs.YtnjopndkommjnaaDoor
open Go Go.RowKit
set_option linter.unusedVariables false
set_option maxRecDepth 1000000

theorem hcl_drop : ∀ (L : List Ht) (k : Nat), hcl (L.drop k) = (hcl L).drop (k * 2)
  | [], k => by simp [hcl]
  | x :: L, 0 => by simp [hcl]
  | x :: L, k + 1 => by
    have h := hcl_drop L k
    rw [List.drop_succ_cons, show hcl (x :: L) = x.cells ++ hcl L from rfl, h, show (k + 1) * 2 = x.cells.length + k * 2 by rw [Ht.cells_len]; omega, List.drop_length_add_append]
theorem own_atHp {w : World} {B : Nat} {q : Option Addr} {c : Nat} {L : List Ht} (hr : w.ownsRow B 28 2 (.slice q L.length c) L.length (hcl L)) : HtsAt w q L := by
  obtain ⟨p, d, e, _, h, _⟩ := own_atH hr
  injection e with e _ _
  rw [e]; exact h
theorem putH_len (l : List Ht) (h : Ht) : (putH l h).length = l.length + 1 := by
  unfold putH
  rw [List.length_append, List.length_cons, List.length_take, List.length_drop]; omega
def RetSort (w : World) (L : List Ht) (e : Ending) (w' : World) : Prop := ∃ v, e = .returned v ∧ w'.ownsRow w.heap.size 28 2 v L.length (hcl L) ∧ Below w.heap.size w w'
set_option maxHeartbeats 16000000 in
theorem refSort_is (p : Option Addr) (cL : Nat) (L : List Ht) (w : World) (h : HtsAt w p L) (hn : L.length ≤ 1000) :
    Calls Tryd.prog 30 #[.slice p L.length cL] w (RetSort w (sortH L)) := by
  have HM := Lib.hid h
  clear h
  go_enter Tryd.func30, Tryd.ntmps30
  go_wp2_with fail
  go_loopg [3, 12] L.length (fun gk v i wr => ∃ (jo : Nat) (D : List Ht), jo ≤ L.length ∧ gk = L.length - jo ∧ i = .int .i64 jo ∧ Hid (D = (L.take jo).foldl putH []) ∧ D.length ≤ jo ∧ Hid (wr.ownsRow w.heap.size 28 2 v D.length (hcl D)) ∧ Hid (Below w.heap.size w wr))
  case atStart => exact ⟨0, [], Nat.zero_le _, rfl, rfl, Lib.hid rfl, Nat.le_refl _, Lib.hid ⟨rfl, .inl ⟨rfl, rfl⟩⟩, Lib.hid (Below.refl _ _)⟩
  case round =>
    obtain ⟨jo, D, hjo, hgk, rfl, HD, hDj, OD, BB⟩ := hrel
    obtain ⟨q, c, rfl⟩ := own_slice OD.out
    by_cases hjl : jo < L.length
    · have hjl' : (jo : Int) < L.length := by omega
      obtain ⟨b, o, rfl, hlt, hr⟩ := (HM.out.below BB.out).at hjl
      obtain ⟨k0, k1⟩ := ht_cells hr
      have TK : Hid (L.take (jo + 1) = L.take jo ++ [L[jo]]) := Lib.hid (List.take_succ_eq_append_getElem hjl)
      clear hr hlt
      obtain ⟨x, hx⟩ : ∃ x, L[jo] = x := ⟨_, rfl⟩
      rw [hx] at k0 k1 TK
      clear hx
      have KD : Hid (Hid (putH D x = (L.take (jo + 1)).foldl putH [])) := Lib.hid (Lib.hid (by rw [TK.out, List.foldl_append, ← HD.out]; rfl))
      have LEN : Hid ((putH D x).length ≤ jo + 1) := Lib.hid (by rw [putH_len]; omega)
      clear TK HD
      obtain ⟨xi, xs⟩ := x
      simp only at k0 k1
      have b7 := below_alloc wr (.cells #[.string xi, .int .i64 xs] 28)
      have BW := Lib.hid (thenBelow BB.out b7)
      have HO := Lib.hid (own_later OD.out b7)
      have R7 : Hid ((wr.alloc (.cells #[.string xi, .int .i64 xs] 28)).rangeAt wr.heap.size 0 (Ht.cells ⟨xi, xs⟩)) := Lib.hid (range_of_block (heap_alloc_new wr (.cells #[.string xi, .int .i64 xs] 28)))
      clear b7
      go_wp2_with fail
      obtain ⟨g3, hg3⟩ : ∃ g3, wr.heap.size = g3 := ⟨_, rfl⟩
      rw [hg3] at R7 ⊢
      generalize wr.alloc (.cells #[.string xi, .int .i64 xs] 28) = wo at BW HO R7 ⊢
      have HMo := Lib.hid (own_atHp HO.out)
      clear hg3 k0 k1 OD
      have LS := Lib.hid (fun y : Ht => refLess_is y ⟨xi, xs⟩)
      go_loopg [6, 18] D.length (fun g2 pa i wy => ∃ j A : Nat, j ≤ D.length ∧ g2 = D.length - j ∧ A ≤ j ∧ pa = .int .i64 A ∧ i = .int .i64 j ∧ Hid (atH (D.take j) ⟨xi, xs⟩ = A) ∧ Hid (Below wo.heap.size wo wy))
      case atStart => exact ⟨0, 0, Nat.zero_le _, rfl, Nat.le_refl _, rfl, rfl, Lib.hid rfl, Lib.hid (Below.refl _ _)⟩
      case round =>
        obtain ⟨j, A, hj, hg2, hA1, rfl, rfl, HA, BY⟩ := hrel
        by_cases hkl : j < D.length
        · have hkl' : (j : Int) < D.length := by omega
          obtain ⟨b2, o2, rfl, hlt, hr⟩ := (HMo.out.below BY.out).at hkl
          obtain ⟨m0, m1⟩ := ht_cells hr
          have TA : Hid (atH (D.take (j + 1)) ⟨xi, xs⟩ = if ltH D[j] ⟨xi, xs⟩ then j + 1 else A) := Lib.hid (by
            rw [List.take_succ_eq_append_getElem hkl, atH_snoc, HA.out, List.length_take, Nat.min_eq_left (by omega)])
          have RX : Hid (wr.rangeAt g3 0 [.string xi, .int .i64 xs]) := Lib.hid (range_below R7.out BY.out)
          clear hr hlt
          obtain ⟨y, hy⟩ : ∃ y, D[j] = y := ⟨_, rfl⟩
          rw [hy] at m0 m1 TA
          clear hy
          have LY := Lib.hid (LS.out y)
          obtain ⟨bz, hbz⟩ : ∃ bz, ltH y ⟨xi, xs⟩ = bz := ⟨_, rfl⟩
          rw [hbz] at TA LY
          clear hbz
          obtain ⟨yi, ys⟩ := y
          simp only at m0 m1
          have LY : Hid (∀ V : World, Calls Tryd.prog 27 #[.agg #[.string yi, .int .i64 ys], .agg #[.string xi, .int .i64 xs]] V (RetBool V bz)) := LY
          have b8 := below_alloc wr (.cells #[.string yi, .int .i64 ys] 28)
          have B8 := Lib.hid (thenBelow BY.out b8)
          have R8 := Lib.hid (range_below RX.out b8)
          have Y8 : Hid ((wr.alloc (.cells #[.string yi, .int .i64 ys] 28)).rangeAt wr.heap.size 0 [.string yi, .int .i64 ys]) := Lib.hid (range_of_block (heap_alloc_new wr (.cells #[.string yi, .int .i64 ys] 28)))
          clear b8 RX
          go_wp2_with (first | refine wpList_gload rfl _ rfl g3 0 rfl _ R8.out _ Tryd.underlying28 rfl (sizeHt ⟨xi, xs⟩) ?_ | refine wpList_gload rfl _ rfl wr.heap.size 0 rfl _ Y8.out _ Tryd.underlying28 rfl (sizeHt ⟨yi, ys⟩) ?_)
          refine (LY.out _).mono ?_
          rintro e w9 ⟨rfl, b9⟩
          have B9 := Lib.hid (thenBelow B8.out b9)
          clear b9 B8 R8 Y8 LY
          dsimp only
          cases bz with
          | true =>
            rw [if_pos rfl] at TA
            go_wp2
            go_roundg (D.length - (j + 1))
            case measure => omega
            case rel => exact ⟨j + 1, j + 1, by omega, rfl, Nat.le_refl _, by go_num, by go_num, TA, B9⟩
          | false =>
            rw [if_neg (by decide)] at TA
            go_wp2
            go_roundg (D.length - (j + 1))
            case measure => omega
            case rel => exact ⟨j + 1, A, by omega, rfl, by omega, by go_num, by go_num, TA, B9⟩
        · obtain rfl : j = D.length := by omega
          have hkl' : ¬ ((D.length : Nat) : Int) < D.length := by omega
          rw [List.take_length] at HA
          have PX := HA
          have hA2 : A ≤ D.length := hA1
          clear HA HMo hA1 LS
          have R2 : Hid (wr.rangeAt g3 0 (Ht.cells ⟨xi, xs⟩)) := Lib.hid (range_below R7.out BY.out)
          have B2 := BY
          have S2 := Lib.hid B2.out.size
          clear BY R7
          rcases HO.out.2 with ⟨h1, h2⟩ | ⟨g, cap, cur, h1, hg1, hg2, hg3, _⟩
          · injection h1 with h1 _ hc0
            subst h1 hc0
            have hl0 : D = [] := List.eq_nil_of_length_eq_zero h2
            subst hl0
            obtain rfl : A = 0 := by simpa using hA2
            clear hkl' hkl hj h2 hA2
            obtain ⟨c0, c1⟩ := ht_cells R2.out
            skip
            simp only [Nat.zero_add] at c0 c1
            go_wp2_with (at_builtin; refine wpList_hit wr rfl _ _ rfl wo.heap.size 0 [] (.slice none 0 0) rfl ⟨rfl, .inl ⟨rfl, rfl⟩⟩ ⟨xi, xs⟩ rfl (by omega) S2.out ?_)
            clear c0 c1
            intro v6 w6 o6 g6
            have B6 := Lib.hid (B2.out.grown g6 S2.out (fun k hk => by cases hk))
            have O6 := Lib.hid o6
            clear o6 g6
            go_wp2_with (at_builtin; refine wpList_hitNone w6 rfl _ _ rfl wo.heap.size _ _ _ rfl O6.out rfl ?_)
            have OZ : Hid (w6.ownsRow w.heap.size 28 2 v6 (putH [] ⟨xi, xs⟩).length (hcl (putH [] ⟨xi, xs⟩))) := Lib.hid (own_base (by
              have h9 := O6.out
              simpa [putH, hcl] using h9) BW.out.size)
            have BZ := Lib.hid (thenBelow BW.out B6.out)
            clear O6 B6
            go_wp2
            go_roundg (L.length - (jo + 1))
            case measure => omega
            case rel => exact ⟨jo + 1, _, by omega, by omega, by go_num, KD.out, LEN.out, OZ.out, BZ.out⟩
          · injection h1 with h1 _ hc0
            subst h1 hc0
            have hcap : A ≤ c := by omega
            have RW : Hid (wo.rangeAt g 0 (hcl D)) := Lib.hid fun j u hu => by
              have hj : j < D.length * 2 := by rw [← hcl_length]; exact (List.getElem?_eq_some_iff.1 hu).1
              rw [Nat.zero_add, HO.out.cellAt j hj]; exact hu
            have RD : Hid (wo.rangeAt g (A * 2) (hcl (D.drop A))) := Lib.hid fun j u hu => by
              rw [hcl_drop, List.getElem?_drop] at hu
              have := RW.out (A * 2 + j) u hu
              rwa [Nat.zero_add] at this
            have RT : Hid (wo.rangeAt g 0 (hcl (D.take A))) := Lib.hid fun j u hu => by
              rw [hcl_take] at hu
              by_cases h5 : j < A * 2
              · rw [List.getElem?_take_of_lt h5] at hu; exact RW.out j u hu
              · rw [List.getElem?_eq_none (by rw [List.length_take]; omega)] at hu; cases hu
            have LT : Hid ((D.take A).length = A) := Lib.hid (by rw [List.length_take]; omega)
            have LD : Hid ((D.drop A).length = D.length - A) := Lib.hid (by rw [List.length_drop])
            have FIN : Hid (0 + A + 1 + (D.length - A) = (putH D ⟨xi, xs⟩).length ∧ [] ++ hcl (D.take A) ++ (Ht.cells ⟨xi, xs⟩) ++ hcl (D.drop A) = hcl (putH D ⟨xi, xs⟩)) := Lib.hid (by
              unfold putH
              rw [PX.out]
              refine ⟨by rw [List.length_append, List.length_cons, LT.out, LD.out]; omega, ?_⟩
              rw [hcl_append]
              simp [hcl])
            have RT2 := Lib.hid (range_below RT.out B2.out)
            clear hg1 hg2 RW RT
            obtain ⟨n, hn2⟩ : ∃ n, D.length = n := ⟨_, rfl⟩
            have HN := Lib.hid hn2
            go_wp2_with (at_builtin; refine wpList_hits wr rfl _ _ rfl wo.heap.size 0 [] (.slice none 0 0) rfl ⟨rfl, .inl ⟨rfl, rfl⟩⟩ g 0 A c (D.take A) LT.out rfl RT2.out (by omega) S2.out ?_)
            intro v5 w5 o5 g5
            have b5 : Below wr.heap.size wr w5 := ⟨g5.os, g5.tape, g5.output, g5.size, fun k hk => g5.block k hk (by rintro ⟨⟩)⟩
            have B5 := Lib.hid (B2.out.grown g5 S2.out (fun k hk => by cases hk))
            have R5 := Lib.hid (range_below R2.out b5)
            have HA1 : Hid (A + 1 ≤ 1000000) := Lib.hid (by omega)
            have O5 := Lib.hid o5; have S5 := Lib.hid B5.out.size
            clear o5 g5 b5 R2 RT2
            obtain ⟨c0, c1⟩ := ht_cells R5.out
            skip
            simp only [Nat.zero_add] at c0 c1
            go_wp2_with (at_builtin; refine wpList_hit w5 rfl _ _ rfl wo.heap.size A (hcl (D.take A)) v5 rfl O5.out ⟨xi, xs⟩ rfl HA1.out S5.out ?_)
            clear c0 c1
            intro v6 w6 o6 g6
            have B6 := Lib.hid (B5.out.grown g6 S5.out (fun k hk => (O5.out.lt k hk).1))
            have O6 := Lib.hid o6; have S6 := Lib.hid B6.out.size
            have RD6 := Lib.hid (range_below RD.out B6.out)
            clear o6 g6
            have HA2 : Hid (A + 1 + (n - A) ≤ 1000000) := Lib.hid (by omega)
            have LD2 := Lib.hid (LD.out.trans (by rw [HN.out] : D.length - A = n - A))
            have FIN2 : Hid (A + 1 + (n - A) = (putH D ⟨xi, xs⟩).length ∧ hcl (D.take A) ++ Ht.cells ⟨xi, xs⟩ ++ hcl (D.drop A) = hcl (putH D ⟨xi, xs⟩)) := Lib.hid (by
              have h9 := FIN.out
              rw [Nat.zero_add, List.nil_append, HN.out] at h9
              exact h9)
            have hAn : A ≤ n := by omega
            clear FIN PX R5 HO RD LT LD hkl' hj hkl O5
            by_cases hcA : c = A
            · obtain rfl : c = A := hcA
              obtain rfl : n = c := by omega
              have RZ : Hid (w6.rangeAt g 0 (hcl (D.drop n))) := Lib.hid (by
                have h9 : D.drop n = [] := List.eq_nil_of_length_eq_zero (by rw [LD2.out]; omega)
                rw [h9]
                intro j u hu
                simp [hcl] at hu)
              have hz : n - n = 0 := Nat.sub_self n
              rw [hz] at LD2 HA2 FIN2
              clear RD6 hn2
              go_wp2_with (at_builtin; refine wpList_hits w6 rfl _ _ rfl wo.heap.size (n + 1) (hcl (D.take n) ++ Ht.cells ⟨xi, xs⟩) v6 rfl O6.out g 0 0 0 (D.drop n) LD2.out rfl RZ.out HA2.out S6.out ?_)
              intro v7 w7 o7 g7
              have B7 := Lib.hid (B6.out.grown g7 S6.out (fun k hk => (O6.out.lt k hk).1))
              have OZ : Hid (w7.ownsRow w.heap.size 28 2 v7 (putH D ⟨xi, xs⟩).length (hcl (putH D ⟨xi, xs⟩))) := Lib.hid (own_base (by
                rw [← FIN2.out.1, ← FIN2.out.2, List.append_assoc]
                exact o7) BW.out.size)
              have BZ := Lib.hid (thenBelow BW.out B7.out)
              clear o7 g7 O6 B6 B7 S6 S5
              go_wp2
              go_roundg (L.length - (jo + 1))
              case measure => omega
              case rel => exact ⟨jo + 1, _, by omega, by omega, by go_num, KD.out, LEN.out, OZ.out, BZ.out⟩
            · clear hn2
              go_wp2_with (at_builtin; refine wpList_hits w6 rfl _ _ rfl wo.heap.size (A + 1) (hcl (D.take A) ++ Ht.cells ⟨xi, xs⟩) v6 rfl O6.out g (A * 2) (n - A) (c - A) (D.drop A) LD2.out rfl RD6.out HA2.out S6.out ?_)
              intro v7 w7 o7 g7
              have B7 := Lib.hid (B6.out.grown g7 S6.out (fun k hk => (O6.out.lt k hk).1))
              have OZ : Hid (w7.ownsRow w.heap.size 28 2 v7 (putH D ⟨xi, xs⟩).length (hcl (putH D ⟨xi, xs⟩))) := Lib.hid (own_base (by
                rw [← FIN2.out.1, ← FIN2.out.2, List.append_assoc]
                exact o7) BW.out.size)
              have BZ := Lib.hid (thenBelow BW.out B7.out)
              clear o7 g7 O6 B6 B7 S6 S5
              go_wp2
              go_roundg (L.length - (jo + 1))
              case measure => omega
              case rel => exact ⟨jo + 1, _, by omega, by omega, by go_num, KD.out, LEN.out, OZ.out, BZ.out⟩
    · obtain rfl : jo = L.length := by omega
      have hjl' : ¬ ((L.length : Nat) : Int) < L.length := by omega
      rw [List.take_length] at HD
      go_wp2
      go_ret
      have e1 : sortH L = D := by rw [HD.out]; rfl
      rw [e1]
      exact ⟨_, rfl, OD.out, BB.out⟩
end Go.Proofs.YtnjopndkommjnaaDoor
