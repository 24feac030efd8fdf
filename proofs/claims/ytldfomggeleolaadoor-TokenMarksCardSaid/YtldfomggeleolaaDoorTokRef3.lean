/- The document's Spans and Words. -/
import Derived.Test.YtldfomggeleolaaDoorTokRef2
namespace Go.Proofs.YtldfomggeleolaaDoor
open Go Go.RowKit
set_option linter.unusedVariables false

theorem isSpan : P2 Tryd.prog 29 31 16 := ⟨Tryd.underlying29, by kernel_rfl⟩
theorem isToken : P2 Tryd.prog 24 26 24 := ⟨Tryd.underlying24, by kernel_rfl⟩
theorem spl_len (l : List (Nat × Nat)) : (Tok.spl l).length = l.length := by simp [Tok.spl]
theorem tkl_len (l : List (ByteArray × Nat)) : (Tok.tkl l).length = l.length := by simp [Tok.tkl]

set_option maxHeartbeats 4000000 in
set_option maxRecDepth 100000 in
theorem refSpans15_is (s : ByteArray) (w : World) (hs : s.size ≤ 100000) :
    Calls Tryd.prog 13 #[.string s] w fun e w' => ∃ v, e = .returned v ∧ w'.ownsRow w.heap.size 31 2 v (Tok.spans s).length (pc (Tok.spl (Tok.spans s))) ∧ Below w.heap.size w w' := by
  have PC := Lib.hid (refPieces_is s w hs)
  have hsp : Tok.spans s = Tok.ws (Tok.pcs s) := Tok.spans_pcs s
  have hlen := Tok.pcs_len s
  obtain ⟨all, hall⟩ : ∃ all, all = Tok.pcs s := ⟨_, rfl⟩
  rw [← hall] at PC hsp hlen
  have HA : Hid (all.drop 0 = Tok.pcF s s.size 0) := hall
  have hNl := Tok.ws_len all
  rw [← hsp] at hNl
  generalize Tok.spans s = L at hsp hNl ⊢
  have HN := Lib.hid hsp
  clear hall hsp
  go_enter Tryd.func13, Tryd.ntmps13
  go_wp2_with fail
  refine PC.out.mono ?_
  rintro e w1 ⟨v, rfl, hown, hb⟩
  obtain ⟨q, c, rfl, hc, hrow⟩ := own_pieces hown
  have RO := Lib.hid hrow; have B := Lib.hid hb
  clear PC hown hb hrow
  go_wp2
  go_loopw [3, 4, 10] (fun v at_ i wr => ∃ (k p f : Nat) (out : List (Nat × Nat)), i = .int .i64 k ∧ at_ = .int .i64 p ∧ k ≤ all.length ∧ p ≤ s.size ∧ s.size ≤ p + f ∧ all.drop k = Tok.pcF s f p ∧ L = out ++ Tok.ws (Tok.pcF s f p) ∧
    wr.ownsRow w1.heap.size 31 2 v out.length (pc (Tok.spl out)) ∧ Below w1.heap.size w1 wr) (fun _ _ i _ => all.length - (intOf i).toNat)
  case atStart => exact ⟨0, 0, s.size, [], rfl, rfl, Nat.zero_le _, Nat.zero_le _, by omega, HA.out, by rw [← HA.out, List.drop_zero, HN.out]; rfl, World.ownsRow_nil _ _ _ _, Below.refl _ _⟩
  case round =>
    obtain ⟨k, p, f, out, rfl, rfl, hk, hp, hf, hd, hm, hown, hb1⟩ := hrel
    have HD := Lib.hid hd; have HM := Lib.hid hm; have BV := Lib.hid hb1; have OW := Lib.hid hown
    have RW := Lib.hid (RO.out.below hb1)
    have hol : out.length ≤ 100000 := by have := congrArg List.length hm; rw [List.length_append] at this; omega
    clear hd hm hb1 hown
    by_cases hlt : k < all.length
    · obtain ⟨h1, h2, h3, h4, h5⟩ := Tok.pc_at s all k f p HD.out hf hlt
      obtain ⟨g, rfl, hg, c0, c1⟩ := RW.out k hlt
      rw [h2] at c0 c1
      have HM2 := HM.out
      rw [Tok.pc_step s f p h1 hf] at HM2
      have HD3 := Lib.hid h3
      have h6 : (k : Int) < all.length := by omega
      generalize hq : Tok.sk s (Tok.wd s p) p = q at *
      obtain ⟨m, rfl⟩ : ∃ m, q = p + m := ⟨q - p, by omega⟩
      have hes : (s.extract p (p + m)).size = m := by rw [ByteArray.size_extract]; omega
      obtain ⟨X, hX⟩ : ∃ X, X = s.extract p (p + m) := ⟨_, rfl⟩
      rw [← hX] at c0 hes
      obtain ⟨d0, d1, f0, f1⟩ := new2 wr (.string ⟨#[]⟩) (.bool false) 42
      have hx5 := new2h wr (.string X) (.bool (Tok.wd s p)) 42
      obtain ⟨d2, d3, f2, f3⟩ := new2 wr (.string X) (.bool (Tok.wd s p)) 42
      have V5 := Lib.hid (BV.out.alloc BV.out.size (.cells #[.string X, .bool (Tok.wd s p)] 42))
      have O5 := Lib.hid (OW.out.alloc (.cells #[.string X, .bool (Tok.wd s p)] 42))
      cases hw : Tok.wd s p with
      | true =>
        rw [hw] at HM2 c1 d2 d3 f2 f3 V5 O5 hx5
        rw [Tok.ws_yes] at HM2
        have HM3 := Lib.hid HM2
        have S5 := V5.out.size
        clear HM2 HM h2 h3 hq hw hX OW BV
        go_upto_region 6 with fail
        generalize wr.alloc (.cells #[.string X, .bool true] 42) = w5 at *
        generalize wr.heap.size = g5 at *
        go_wp2_with (at_builtin; refine wpList_pair isSpan _ rfl _ _ rfl w1.heap.size _ (Tok.spl out) _ rfl O5.out (.int .i64 (p : Int)) (.int .i64 ((p : Int) + (m : Int))) rfl rfl rfl (by omega) (by unfold maxLen; omega) S5 ?_)
        intro v2 w2 hown2 hb2 hkeep
        have hx6 := (hkeep g5 (Array.getElem?_eq_some_iff.1 hx5).1 (own_ne O5.out hx5 (by decide))).trans hx5
        have O6 : Hid (w2.ownsRow w1.heap.size 31 2 v2 (out ++ [(p, p + m)]).length (pc (Tok.spl (out ++ [(p, p + m)])))) := by
          have h := hown2
          show w2.ownsRow w1.heap.size 31 2 v2 (out ++ [(p, p + m)]).length (pc (Tok.spl (out ++ [(p, p + m)])))
          simp only [Tok.spl, List.map_append, List.map_cons, List.map_nil, List.length_append, List.length_cons, List.length_nil, Int.natCast_add] at h ⊢
          exact h
        have V6 := Lib.hid (V5.out.trans hb2)
        have e0 := (cell_of_row w2 g5 0 _ _ _ hx6).trans (show _ = some (Value.string X) from rfl)
        clear hown2 hb2 O5 V5 hkeep hx5 hx6 d0 d1 d2 d3 f0 f1 f2 f3 S5
        go_wp2
        go_roundw
        case rel => exact ⟨k + 1, p + m, f - 1, out ++ [(p, p + m)], by go_num, by go_num, by omega, h5, by omega, HD3.out, by rw [HM3.out, List.append_assoc]; rfl, O6.out, V6.out⟩
        case measure => simp [intOf]; omega
      | false =>
        rw [hw] at HM2 c1 d2 d3 f2 f3 V5 O5 hx5
        rw [Tok.ws_no] at HM2
        have HM3 := Lib.hid HM2
        clear HM2 HM h2 h3 hq hw hX OW BV hx5
        go_wp2
        go_roundw
        case rel => exact ⟨k + 1, p + m, f - 1, out, by go_num, by go_num, by omega, h5, by omega, HD3.out, HM3.out, O5.out, V5.out⟩
        case measure => simp [intOf]; omega
    · have h1 : ¬ (k : Int) < all.length := by omega
      have h2 := Tok.pc_no s all k f p HD.out hf (by omega)
      have h3 := HM.out
      rw [Tok.pc_end s f p h2, Tok.ws_nil, List.append_nil] at h3
      subst h3
      go_wp2
      go_ret
      exact ⟨_, rfl, own_mono2 OW.out B.out.size, thenBelow B.out BV.out⟩
theorem tok1_yes (s : ByteArray) (n : Nat) (x : Nat × Nat) (l : List (Nat × Nat)) (h : n < 60) (h2 : (Tok.term s x).size ≤ 20) : (Tok.num n (x :: l)).filterMap (Tok.tok1 s) = (Tok.term s x, n) :: (Tok.num (n + 1) l).filterMap (Tok.tok1 s) := by
  rw [Tok.num, List.filterMap_cons]
  simp [Tok.tok1, h, h2]
theorem tok1_no (s : ByteArray) (n : Nat) (x : Nat × Nat) (l : List (Nat × Nat)) (h : ¬ (n < 60 ∧ (Tok.term s x).size ≤ 20)) : (Tok.num n (x :: l)).filterMap (Tok.tok1 s) = (Tok.num (n + 1) l).filterMap (Tok.tok1 s) := by
  rw [Tok.num, List.filterMap_cons]
  unfold Tok.tok1
  rw [if_neg h]
theorem toks_len (s : ByteArray) : (Tok.toks s).length ≤ (Tok.spans s).length := by
  unfold Tok.toks
  have := List.length_filterMap_le (Tok.tok1 s) (Tok.num 0 (Tok.spans s))
  rwa [Tok.num_len] at this

set_option maxHeartbeats 4000000 in
set_option maxRecDepth 100000 in
theorem refWords15_is (s : ByteArray) (w : World) (hs : s.size ≤ 100000) :
    Calls Tryd.prog 10 #[.string s] w fun e w' => ∃ v, e = .returned v ∧ w'.ownsRow w.heap.size 26 2 v (Tok.toks s).length (pc (Tok.tkl (Tok.toks s))) ∧ Below w.heap.size w w' := by
  have PC := Lib.hid (refPieces_is s w hs)
  have hsp : Tok.toks s = (Tok.num 0 (Tok.ws (Tok.pcs s))).filterMap (Tok.tok1 s) := by unfold Tok.toks; rw [Tok.spans_pcs]; rfl
  have hlen := Tok.pcs_len s
  have hNl : (Tok.toks s).length ≤ s.size := Nat.le_trans (toks_len s) (Tok.sp_in s).1
  obtain ⟨all, hall⟩ : ∃ all, all = Tok.pcs s := ⟨_, rfl⟩
  rw [← hall] at PC hsp hlen
  have HA : Hid (all.drop 0 = Tok.pcF s s.size 0) := hall
  generalize Tok.toks s = L at hsp hNl ⊢
  have HN := Lib.hid hsp
  clear hall hsp
  go_enter Tryd.func10, Tryd.ntmps10
  go_wp2_with fail
  refine PC.out.mono ?_
  rintro e w1 ⟨v, rfl, hown, hb⟩
  obtain ⟨q, c, rfl, hc, hrow⟩ := own_pieces hown
  have RO := Lib.hid hrow; have B := Lib.hid hb
  clear PC hown hb hrow
  go_wp2
  go_loopw [3, 4, 11] (fun v n_ i wr => ∃ (k p f n : Nat) (out : List (ByteArray × Nat)), i = .int .i64 k ∧ n_ = .int .i64 n ∧ k ≤ all.length ∧ p ≤ s.size ∧ s.size ≤ p + f ∧ all.drop k = Tok.pcF s f p ∧ n ≤ k ∧ L = out ++ (Tok.num n (Tok.ws (Tok.pcF s f p))).filterMap (Tok.tok1 s) ∧
    wr.ownsRow w1.heap.size 26 2 v out.length (pc (Tok.tkl out)) ∧ Below w1.heap.size w1 wr) (fun _ _ i _ => all.length - (intOf i).toNat)
  case atStart => exact ⟨0, 0, s.size, 0, [], rfl, rfl, Nat.zero_le _, Nat.zero_le _, by omega, HA.out, Nat.le_refl _, by rw [← HA.out, List.drop_zero, HN.out]; rfl, World.ownsRow_nil _ _ _ _, Below.refl _ _⟩
  case round =>
    obtain ⟨k, p, f, n, out, rfl, rfl, hk, hp, hf, hd, hnk, hm, hown, hb1⟩ := hrel
    have HD := Lib.hid hd; have HM := Lib.hid hm; have BV := Lib.hid hb1; have OW := Lib.hid hown
    have RW := Lib.hid (RO.out.below hb1)
    have hol : out.length ≤ 100000 := by have := congrArg List.length hm; rw [List.length_append] at this; omega
    clear hd hm hb1 hown
    by_cases hlt : k < all.length
    · obtain ⟨h1, h2, h3, h4, h5⟩ := Tok.pc_at s all k f p HD.out hf hlt
      obtain ⟨g, rfl, hg, c0, c1⟩ := RW.out k hlt
      rw [h2] at c0 c1
      have HM2 := HM.out
      rw [Tok.pc_step s f p h1 hf] at HM2
      have HD3 := Lib.hid h3
      have h6 : (k : Int) < all.length := by omega
      generalize hq : Tok.sk s (Tok.wd s p) p = q at *
      obtain ⟨m, rfl⟩ : ∃ m, q = p + m := ⟨q - p, by omega⟩
      have hes : (s.extract p (p + m)).size = m := by rw [ByteArray.size_extract]; omega
      have TX := Lib.hid (fun w => refText_is (s.extract p (p + m)) w (by omega))
      have HT : Hid (Tok.term s (p, p + m) = ⟨(Utf.ft (s.extract p (p + m)) (s.extract p (p + m)).size 0).toArray⟩) := rfl
      have TX2 : Hid (∀ w, Calls Tryd.prog 24 #[.string (s.extract p (p + m))] w (RetS w (Tok.term s (p, p + m)))) := fun w => by rw [HT.out]; exact TX.out w
      have Y1 := Lib.hid (fun h h2 => tok1_yes s n (p, p + m) (Tok.ws (Tok.pcF s (f - 1) (p + m))) h h2)
      have Y2 := Lib.hid (fun h => tok1_no s n (p, p + m) (Tok.ws (Tok.pcF s (f - 1) (p + m))) h)
      clear TX HT
      obtain ⟨X, hX⟩ : ∃ X, X = s.extract p (p + m) := ⟨_, rfl⟩
      rw [← hX] at c0 hes TX2
      have hx5 := new2h wr (.string X) (.bool (Tok.wd s p)) 42
      obtain ⟨d0, d1, f0, f1⟩ := new2 wr (.string ⟨#[]⟩) (.bool false) 42
      obtain ⟨d2, d3, f2, f3⟩ := new2 wr (.string X) (.bool (Tok.wd s p)) 42
      have V5 := Lib.hid (BV.out.alloc BV.out.size (.cells #[.string X, .bool (Tok.wd s p)] 42))
      have O5 := Lib.hid (OW.out.alloc (.cells #[.string X, .bool (Tok.wd s p)] 42))
      cases hw : Tok.wd s p with
      | true =>
        rw [hw] at HM2 c1 d2 d3 f2 f3 V5 O5 hx5
        rw [Tok.ws_yes] at HM2
        have HM3 := Lib.hid HM2
        have S5 := V5.out.size
        clear HM2 HM h2 h3 hq hw hX OW BV
        generalize Tok.term s (p, p + m) = T at *
        go_upto_region 6 with fail
        generalize wr.alloc (.cells #[.string X, .bool true] 42) = w5 at *
        generalize wr.heap.size = g5 at *
        go_wp2_with fail
        refine (TX2.out w5).mono ?_
        rintro e w6 ⟨rfl, hb6⟩
        have O6 := Lib.hid (own_later2 O5.out hb6); have V6 := Lib.hid (thenBelow V5.out hb6)
        have S6 := V6.out.size
        clear O5 V5 hb6 hx5 d0 d1 d2 d3 f0 f1 f2 f3 S5 TX2
        by_cases hn : n < 60
        · have hn' : (n : Int) < 60 := by omega
          by_cases hz : T.size ≤ 20
          · have hz' : (T.size : Int) ≤ 20 := by omega
            have Y := Lib.hid (HM3.out.trans (by rw [Y1.out hn hz]))
            clear Y1 Y2 HM3
            go_wp2_with (at_builtin; refine wpList_pair isToken _ rfl _ _ rfl w1.heap.size _ (Tok.tkl out) _ rfl O6.out (.string T) (.int .i64 (n : Int)) rfl rfl rfl (by omega) (by unfold maxLen; omega) S6 ?_)
            intro v2 w2 hown2 hb2 hkeep
            have O7 : Hid (w2.ownsRow w1.heap.size 26 2 v2 (out ++ [(T, n)]).length (pc (Tok.tkl (out ++ [(T, n)])))) := by
              have h := hown2
              show w2.ownsRow w1.heap.size 26 2 v2 (out ++ [(T, n)]).length (pc (Tok.tkl (out ++ [(T, n)])))
              simp only [Tok.tkl, List.map_append, List.map_cons, List.map_nil, List.length_append, List.length_cons, List.length_nil] at h ⊢
              exact h
            have V7 := Lib.hid (V6.out.trans hb2)
            clear hown2 hb2 O6 V6 hkeep S6
            go_wp2
            go_roundw
            case rel => exact ⟨k + 1, p + m, f - 1, n + 1, out ++ [(T, n)], by go_num, by go_num, by omega, h5, by omega, HD3.out, by omega, by rw [Y.out, List.append_assoc]; rfl, O7.out, V7.out⟩
            case measure => simp [intOf]; omega
          · have hz' : ¬ (T.size : Int) ≤ 20 := by omega
            have Y := Lib.hid (HM3.out.trans (by rw [Y2.out (fun h => hz h.2)]))
            clear Y1 Y2 HM3
            go_wp2
            go_roundw
            case rel => exact ⟨k + 1, p + m, f - 1, n + 1, out, by go_num, by go_num, by omega, h5, by omega, HD3.out, by omega, Y.out, O6.out, V6.out⟩
            case measure => simp [intOf]; omega
        · have hn' : ¬ (n : Int) < 60 := by omega
          have Y := Lib.hid (HM3.out.trans (by rw [Y2.out (fun h => hn h.1)]))
          clear Y1 Y2 HM3
          go_wp2
          go_roundw
          case rel => exact ⟨k + 1, p + m, f - 1, n + 1, out, by go_num, by go_num, by omega, h5, by omega, HD3.out, by omega, Y.out, O6.out, V6.out⟩
          case measure => simp [intOf]; omega
      | false =>
        rw [hw] at HM2 c1 d2 d3 f2 f3 V5 O5 hx5
        rw [Tok.ws_no] at HM2
        have HM3 := Lib.hid HM2
        clear HM2 HM h2 h3 hq hw hX OW BV hx5 Y1 Y2 TX2
        go_wp2
        go_roundw
        case rel => exact ⟨k + 1, p + m, f - 1, n, out, by go_num, rfl, by omega, h5, by omega, HD3.out, by omega, HM3.out, O5.out, V5.out⟩
        case measure => simp [intOf]; omega
    · have h1 : ¬ (k : Int) < all.length := by omega
      have h2 := Tok.pc_no s all k f p HD.out hf (by omega)
      have h3 := HM.out
      rw [Tok.pc_end s f p h2, Tok.ws_nil, Tok.num, List.filterMap_nil, List.append_nil] at h3
      subst h3
      go_wp2
      go_ret
      exact ⟨_, rfl, own_mono2 OW.out B.out.size, thenBelow B.out BV.out⟩
end Go.Proofs.YtldfomggeleolaaDoor
