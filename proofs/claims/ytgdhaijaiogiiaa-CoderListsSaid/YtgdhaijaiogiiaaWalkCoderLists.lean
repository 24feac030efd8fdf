/- The walk of CoderLists. -/
import Derived.Test.YtgdhaijaiogiiaaCoderAwake
import Derived.Test.YtgdhaijaiogiiaaCoderRise2
namespace Go.Proofs.Ytgdhaijaiogiiaa
open Go Go.RowKit

theorem Came.given3 {w : World} {p : Option Addr} {c : Nat} {l : List UInt8} (h : Came w p c l) : Given w p c l := ⟨h.lies, h.le, h.none⟩
/-- a list as the law keeps it: it rises, and is not long -/
structure Kept (acc : List Int) : Prop where
  len : acc.length ≤ 100
  rise : Cod.riseN acc = acc.length
  wf : InI acc
theorem Kept.nil : Kept [] := ⟨by simp, rfl, fun i hi => by simp at hi⟩
theorem Kept.snoc {acc : List Int} {x : Int} (h : Kept acc) (hl : acc.length < 100) (hx : -9223372036854775808 ≤ x ∧ x ≤ 9223372036854775807) (hu : Cod.lastOf acc acc.length < x) : Kept (acc ++ [x]) := by
  refine ⟨by rw [List.length_append]; simp; omega, Cod.rise_snoc acc x h.rise hu, fun i hi => ?_⟩
  rw [List.length_append] at hi
  simp only [List.length_cons, List.length_nil] at hi
  rcases Nat.lt_or_ge i acc.length with h1 | h1
  · rw [List.getD, List.getElem?_append_left h1, ← List.getD]; exact h.wf i h1
  · obtain rfl : i = acc.length := by omega
    rw [List.getD, List.getElem?_append_right (Nat.le_refl _)]
    simpa using hx
theorem rising_len (l : List Int) : (Cod.rising l).length ≤ 9 + 9 * l.length := by
  unfold Cod.rising
  rw [List.length_append]
  have h1 := enc_len (Cod.riseN l)
  have h2 := Cod.gaps_length l (Cod.riseN l)
  have h3 := Cod.riseN_le l
  omega
theorem rising_pos (l : List Int) : 0 < (Cod.rising l).length := by
  unfold Cod.rising
  rw [List.length_append, Cod.enc_length]
  omega

set_option maxHeartbeats 4000000 in
set_option maxRecDepth 100000 in
theorem coderLists_walk (q : Option Addr) (d : Nat) (m : List Int) (p : Option Addr) (c : Nat) (l : List UInt8) (W : World) (hm : CameI W q d m) (h : Came W p c l) :
    Calls Try.prog 6 #[.slice q m.length d, .slice p l.length c] W (Yes W) := by
  have hr := h.reach
  have hle := h.le
  have hr2 := hm.reach
  have hle2 := hm.le
  have G := Lib.hid h.given3
  have ML := Lib.hid hm.lies; have MW := Lib.hid hm.wf
  clear h hm
  go_enter Try.func6, Try.ntmps6
  go_wp2
  go_loopw [5, 12] (fun v i wr => ∃ (k : Nat) (acc : List Int), k ≤ m.length ∧ i = .int .i64 k ∧ Kept acc ∧ wr.ownsRow W.heap.size 3 1 v acc.length (ints acc) ∧ Below W.heap.size W wr) (fun _ i _ => m.length - (intOf i).toNat)
  case atStart => exact ⟨0, [], Nat.zero_le _, rfl, Kept.nil, World.ownsRow_nil _ _ _ _, Below.refl _ _⟩
  case round =>
    obtain ⟨k, acc, hk, rfl, hacc, hown, hb⟩ := hrel
    have hlen := hacc.len
    obtain ⟨_, pa, ca, rfl, hca, liesA, noneA⟩ := own_liesI hown
    have KA := Lib.hid hacc; have OA := Lib.hid hown; have LA := Lib.hid liesA; have B0 := Lib.hid hb
    clear hacc hown liesA noneA hb
    obtain ⟨n, hn⟩ : ∃ n, n = acc.length := ⟨_, rfl⟩
    have hlast : Hid (0 < n → ∃ ba oa, pa = some ⟨ba, oa, none⟩ ∧ wr.cell? ⟨ba, oa + (n - 1), none⟩ = some (.int .i64 (acc.getD (n - 1) 0))) := by
      intro h0
      obtain ⟨ba, oa, e, _, hc⟩ := LA.out.at (by omega)
      exact ⟨ba, oa, e, by rw [hn]; exact hc _ (by omega)⟩
    have hlo : Cod.lastOf acc n = if n = 0 then -1 else acc.getD (n - 1) 0 := rfl
    rw [← hn] at hlen hca OA ⊢
    by_cases hkm : k < m.length
    · obtain ⟨bm, om, rfl, _, qm⟩ := (ML.out.below B0.out).at (by omega)
      have cx := qm k hkm
      have hx := MW.out k hkm
      clear qm
      generalize m.getD k 0 = x at cx hx
      have HX := Lib.hid hx
      obtain ⟨hx1, hx2⟩ := hx
      have hkm' : (k : Int) < m.length := by omega
      have HL := Lib.hid hlo; have HN := Lib.hid hn
      clear hlo hn
      by_cases hyes : n < 100 ∧ 0 ≤ x ∧ Cod.lastOf acc n < x
      · obtain ⟨y1, y2, y3⟩ := hyes
        have KS : Hid (Kept (acc ++ [x])) := KA.out.snoc (by rw [← HN.out]; exact y1) HX.out (by rw [← HN.out]; exact y3)
        have LS : Hid ((acc ++ [x]).length = n + 1) := by rw [List.length_append, ← HN.out]; rfl
        rw [HL.out] at y3
        by_cases h0 : n = 0
        · clear hlast
          subst h0
          clear y3
          go_wp2_with (at_builtin; refine wpList_int isI64 _ rfl _ _ rfl W.heap.size _ acc _ rfl OA.out _ rfl (by omega) B0.out.size ?_)
          intro v' w' hown' hb'
          have O' := Lib.hid hown'; have B' := Lib.hid (B0.out.trans hb')
          clear hown' hb'
          go_wp2
          go_roundw
          case rel => exact ⟨k + 1, acc ++ [x], by omega, by go_num, KS.out, by rw [LS.out]; exact O'.out, B'.out⟩
          case measure => simp [intOf]; omega
        · obtain ⟨ba, oa, rfl, ca'⟩ := hlast (by omega)
          rw [if_neg h0] at y3
          generalize acc.getD (n - 1) 0 = y at ca' y3
          have hn1 : ((n : Int) - 1) = ((n - 1 : Nat) : Int) := by omega
          have hn2 : n - 1 < n := by omega
          go_wp2_with (at_builtin; refine wpList_int isI64 _ rfl _ _ rfl W.heap.size _ acc _ rfl OA.out _ rfl (by omega) B0.out.size ?_)
          intro v' w' hown' hb'
          have O' := Lib.hid hown'; have B' := Lib.hid (B0.out.trans hb')
          clear hown' hb'
          go_wp2
          go_roundw
          case rel => exact ⟨k + 1, acc ++ [x], by omega, by go_num, KS.out, by rw [LS.out]; exact O'.out, B'.out⟩
          case measure => simp [intOf]; omega
      · rw [HL.out] at hyes
        by_cases y1 : n < 100
        · by_cases y2 : 0 ≤ x
          · have h0 : ¬ n = 0 := by
              intro e
              rw [if_pos e] at hyes
              exact hyes ⟨y1, y2, by omega⟩
            rw [if_neg h0] at hyes
            obtain ⟨ba, oa, rfl, ca'⟩ := hlast (by omega)
            generalize acc.getD (n - 1) 0 = y at ca' hyes
            have y3 : ¬ y < x := fun e => hyes ⟨y1, y2, e⟩
            have hn1 : ((n : Int) - 1) = ((n - 1 : Nat) : Int) := by omega
            have hn2 : n - 1 < n := by omega
            clear hyes
            go_wp2
            go_roundw
            case rel => exact ⟨k + 1, acc, by omega, by go_num, KA.out, by rw [← HN.out]; exact OA.out, B0.out⟩
            case measure => simp [intOf]; omega
          · clear hyes hlast
            go_wp2
            go_roundw
            case rel => exact ⟨k + 1, acc, by omega, by go_num, KA.out, by rw [← HN.out]; exact OA.out, B0.out⟩
            case measure => simp [intOf]; omega
        · clear hyes hlast
          go_wp2
          go_roundw
          case rel => exact ⟨k + 1, acc, by omega, by go_num, KA.out, by rw [← HN.out]; exact OA.out, B0.out⟩
          case measure => simp [intOf]; omega
    · obtain rfl : k = m.length := by omega
      clear hlo hk ML MW hr2 hle2 hkm
      obtain ⟨L1, hL1⟩ : ∃ L, L = Cod.rising acc := ⟨_, rfl⟩
      have k1 : L1.length ≤ 909 := by have := rising_len acc; have := KA.out.len; rw [hL1]; omega
      have k2 : 0 < L1.length := by rw [hL1]; exact rising_pos acc
      have RI : Hid (Calls Try.prog 18 #[.slice none 0 0, .slice pa n ca] wr (RetOwn wr 5 L1)) := by
        rw [hn, hL1]
        exact rising_any none pa 0 ca [] acc wr (givenNil _) LA.out KA.out.wf (by have := KA.out.len; simp; omega)
      have EQ : Hid (∀ w' p1 c1, LiesI w' p1 acc → LiesI w' pa acc → Calls Try.prog 26 #[.slice p1 n c1, .slice pa n ca] w' fun e w'' => e = .returned (.bool true) ∧ Below w'.heap.size w' w'') := by
        intro w' p1 c1 h1 h2
        rw [hn]
        exact equalI_any p1 pa c1 ca acc w' h1 h2 (by have := KA.out.len; omega)
      have NL : Hid (∀ v : Value, v = .slice none 0 0 → n = acc.length) := fun _ _ => hn
      have HL1 := Lib.hid hL1
      have TOPN : Hid (n = 0 → Cod.Top 0 acc) := by
        intro h0
        obtain rfl : acc = [] := List.eq_nil_of_length_eq_zero (by omega)
        exact Cod.top_nil
      have TOPP : Hid (0 < n → Cod.Top (acc.getD (n - 1) 0) acc) := by
        intro h0
        rw [hn]
        exact Cod.top_last acc KA.out.rise (by omega) (KA.out.wf _ (by omega))
      clear hn hL1
      rcases Nat.eq_zero_or_pos n with h0 | h0
      · have TOP := Lib.hid (TOPN.out h0)
        clear hlast TOPN TOPP
        subst h0
        go_wp2_with fail
        refine RI.out.mono ?_
        rintro e w1 ⟨v1, rfl, hown1, b1⟩
        have g1 := Lib.hid (G.out.below (thenBelow B0.out b1)); have B1 := Lib.hid b1
        have O1 := Lib.hid hown1; have S1 := Lib.hid b1.size
        clear hown1 b1 RI
        go_wp2_with (at_builtin; refine wpList_bytes isU8 _ rfl _ _ rfl wr.heap.size _ _ _ rfl O1.out p l.length c l rfl g1.out.lies rfl (fun e => ⟨by rw [(g1.out.none e).1]; rfl, (g1.out.none e).2⟩) (by omega) S1.out ?_)
        intro v2 w2 hown2 hb2
        obtain ⟨L2, hL2⟩ : ∃ L, L = L1 ++ l := ⟨_, rfl⟩
        have e4 : L2 = Cod.rising acc ++ l := by rw [hL2, HL1.out]
        have e5 : L2.length = L1.length + l.length := by rw [hL2, List.length_append]
        rw [← hL2] at hown2
        obtain ⟨n4, p2, c2, rfl, le2, _, lies2, none2⟩ := own_lies hown2
        have q6 : L2.length ≤ 140737488355328 := by omega
        have r6 := q6
        rw [e4] at r6
        have q9 : 0 < L2.length := by omega
        have B2 : Hid (Below wr.heap.size wr w2) := B1.out.trans hb2
        have G2 : Hid (Given w2 p2 c2 L2) := ⟨lies2, le2, none2⟩
        have E4 := Lib.hid e4; have R6 := Lib.hid r6
        clear hown2 hb2 le2 lies2 none2 e4 n4 r6 e5 hL2
        have Q6 := Lib.hid q6; have Q9 := Lib.hid q9
        clear q6 q9
        go_wp2_with fail
        refine (read_any p2 c2 _ w2 G2.out Q9.out Q6.out).mono ?_
        rintro e w3 ⟨B, rfl, hB, r3, b3⟩
        rw [E4.out] at r3
        have R3 := Lib.hid r3; have B3 := Lib.hid (thenBelow B2.out b3); have HB := Lib.hid (Nat.le_trans B2.out.size hB)
        clear r3 b3 hB
        go_wp2_with fail
        refine (risingIn_live B 100 _ acc l w3 R3.out KA.out.rise ⟨by have := KA.out.len; omega, by omega⟩ TOP.out.1 TOP.out.2 R6.out).mono ?_
        rintro e w4 ⟨v4, rfl, hown4, r4, g4⟩
        obtain ⟨_, p4, c4, rfl, _, lies4, _⟩ := own_liesI hown4
        have R4 := Lib.hid r4; have L4 := Lib.hid lies4
        have B4 := Lib.hid (B3.out.grown g4 B3.out.size (fun k hk => by cases hk; exact HB.out))
        rw [← NL.out _ rfl]
        clear hown4 r4 g4 lies4
        go_wp2_with fail
        refine (EQ.out w4 p4 c4 L4.out (LA.out.below B4.out)).mono ?_
        rintro e w5 ⟨rfl, b5⟩
        have R5 := Lib.hid (R4.out.below b5); have B5 := Lib.hid (thenBelow B4.out b5)
        clear b5
        go_wp2_with fail
        refine (err_live B l w5 R5.out).mono ?_
        rintro e w' ⟨rfl, rfl⟩
        go_wp2_with fail
        refine (left_live B l w5 R5.out).mono ?_
        rintro e w' ⟨rfl, rfl⟩
        go_wp2_with fail
        refine (awake_any w5).mono ?_
        rintro e w6 ⟨rfl, b6⟩
        have B6 := Lib.hid (thenBelow (thenBelow B0.out B5.out) b6)
        go_wp2_with fail
        go_ret
        exact ⟨rfl, B6.out⟩
      · obtain ⟨ba, oa, rfl, ca'⟩ := hlast h0
        have TOP := Lib.hid (TOPP.out h0)
        clear hlast TOPN TOPP
        generalize acc.getD (n - 1) 0 = y at ca' TOP
        have hn1 : ((n : Int) - 1) = ((n - 1 : Nat) : Int) := by omega
        have hn2 : n - 1 < n := by omega
        go_wp2_with fail
        refine RI.out.mono ?_
        rintro e w1 ⟨v1, rfl, hown1, b1⟩
        have g1 := Lib.hid (G.out.below (thenBelow B0.out b1)); have B1 := Lib.hid b1
        have O1 := Lib.hid hown1; have S1 := Lib.hid b1.size
        clear hown1 b1 RI
        go_wp2_with (at_builtin; refine wpList_bytes isU8 _ rfl _ _ rfl wr.heap.size _ _ _ rfl O1.out p l.length c l rfl g1.out.lies rfl (fun e => ⟨by rw [(g1.out.none e).1]; rfl, (g1.out.none e).2⟩) (by omega) S1.out ?_)
        intro v2 w2 hown2 hb2
        obtain ⟨L2, hL2⟩ : ∃ L, L = L1 ++ l := ⟨_, rfl⟩
        have e4 : L2 = Cod.rising acc ++ l := by rw [hL2, HL1.out]
        have e5 : L2.length = L1.length + l.length := by rw [hL2, List.length_append]
        rw [← hL2] at hown2
        obtain ⟨n4, p2, c2, rfl, le2, _, lies2, none2⟩ := own_lies hown2
        have q6 : L2.length ≤ 140737488355328 := by omega
        have r6 := q6
        rw [e4] at r6
        have q9 : 0 < L2.length := by omega
        have B2 : Hid (Below wr.heap.size wr w2) := B1.out.trans hb2
        have G2 : Hid (Given w2 p2 c2 L2) := ⟨lies2, le2, none2⟩
        have E4 := Lib.hid e4; have R6 := Lib.hid r6
        clear hown2 hb2 le2 lies2 none2 e4 n4 r6 e5 hL2
        have Q6 := Lib.hid q6; have Q9 := Lib.hid q9
        clear q6 q9
        go_wp2_with fail
        refine (read_any p2 c2 _ w2 G2.out Q9.out Q6.out).mono ?_
        rintro e w3 ⟨B, rfl, hB, r3, b3⟩
        rw [E4.out] at r3
        have R3 := Lib.hid r3; have B3 := Lib.hid (thenBelow B2.out b3); have HB := Lib.hid (Nat.le_trans B2.out.size hB)
        clear r3 b3 hB
        go_wp2_with fail
        refine (risingIn_live B 100 _ acc l w3 R3.out KA.out.rise ⟨by have := KA.out.len; omega, by omega⟩ TOP.out.1 TOP.out.2 R6.out).mono ?_
        rintro e w4 ⟨v4, rfl, hown4, r4, g4⟩
        obtain ⟨_, p4, c4, rfl, _, lies4, _⟩ := own_liesI hown4
        have R4 := Lib.hid r4; have L4 := Lib.hid lies4
        have B4 := Lib.hid (B3.out.grown g4 B3.out.size (fun k hk => by cases hk; exact HB.out))
        rw [← NL.out _ rfl]
        clear hown4 r4 g4 lies4
        go_wp2_with fail
        refine (EQ.out w4 p4 c4 L4.out (LA.out.below B4.out)).mono ?_
        rintro e w5 ⟨rfl, b5⟩
        have R5 := Lib.hid (R4.out.below b5); have B5 := Lib.hid (thenBelow B4.out b5)
        clear b5
        go_wp2_with fail
        refine (err_live B l w5 R5.out).mono ?_
        rintro e w' ⟨rfl, rfl⟩
        go_wp2_with fail
        refine (left_live B l w5 R5.out).mono ?_
        rintro e w' ⟨rfl, rfl⟩
        go_wp2_with fail
        refine (awake_any w5).mono ?_
        rintro e w6 ⟨rfl, b6⟩
        have B6 := Lib.hid (thenBelow (thenBelow B0.out B5.out) b6)
        go_wp2_with fail
        go_ret
        exact ⟨rfl, B6.out⟩
end Go.Proofs.Ytgdhaijaiogiiaa
