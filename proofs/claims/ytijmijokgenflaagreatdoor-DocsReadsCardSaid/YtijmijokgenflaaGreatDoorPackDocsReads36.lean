/- The statement DocsReads, proved for every input that its row reads: part 36 of 54. -/
import Derived.Test.YtijmijokgenflaaGreatDoorPackDocsReads35
/- stableCmpFunc: a row put in order, what is alike in its order. -/
namespace Go.Proofs.YtijmijokgenflaaGreatDoor
open Go Go.RowKit
set_option linter.unusedVariables false
set_option maxRecDepth 1000000

theorem symrW (lt : Wr → Wr → Bool) (hlt : SW lt) (F : FuncId) (caps : Array Value) (HF : TellsW F caps lt) (B g c N : Nat) (hbig : N ≤ 1000000) : ∀ (fuel : Nat) (P U V S : List Wr) (a m b : Nat) (w : World), U.length + V.length ≤ fuel → (P ++ (U ++ (V ++ S))).length = N → RowW w B g c (P ++ (U ++ (V ++ S))) → Srt lt U → Srt lt V → 0 < U.length → 0 < V.length → a = P.length → m = P.length + U.length → b = P.length + U.length + V.length →
      Calls Tryz.prog 96 #[.slice (some ⟨g, 0, none⟩) N c, .int .i64 (a : Int), .int .i64 (m : Int), .int .i64 (b : Int), .func (.func F) #[] caps] w (SwW w B g c (P ++ (mrg lt U V ++ S))) := by
  intro fuel
  induction fuel with
  | zero => intro P U V S a m b w hf hN h hU hV hU0 hV0 ha hm hb; omega
  | succ f ih =>
    intro P U V S a m b w hf hN h hU hV hU0 hV0 ha hm hb
    by_cases h1 : U.length = 1
    · obtain ⟨u, rfl⟩ := List.length_eq_one_iff.1 h1
      exact symAW_is lt hlt F caps HF B g c N P V S u a m b w (by simpa using hN) (by simpa using h) hV ha (by simpa using hm) (by simpa using hb) hbig
    · by_cases h2 : V.length = 1
      · obtain ⟨v, rfl⟩ := List.length_eq_one_iff.1 h2
        exact symBW_is lt hlt F caps HF B g c N P U S v a m b w (by simpa using hN) (by simpa using h) hU (by omega) ha hm (by simpa using hb) hbig
      · by_cases h3 : mid_ a b < m
        · exact symDW_is lt hlt F caps HF B g c N hbig f ih P U V S a m b w hf hN h hU hV (by omega) (by omega) ha hm hb h3
        · exact symCW_is lt hlt F caps HF B g c N hbig f ih P U V S a m b w hf hN h hU hV (by omega) (by omega) ha hm hb (by omega)
theorem blk_at {α : Type} {lt : α → α → Bool} {bs : Nat} {L : List α} (h : bs ≤ L.length) (h0 : 0 < bs) : blk lt bs L = isrt lt (L.take bs) ++ blk lt bs (L.drop bs) := blk_ge h h0
set_option maxHeartbeats 1000000 in
theorem stbW_is (lt : Wr → Wr → Bool) (hlt : SW lt) (F : FuncId) (caps : Array Value) (HF : TellsW F caps lt) (B g c N : Nat) (L : List Wr) (w : World) (hN : L.length = N) (h : RowW w B g c L) (hbig : N ≤ 1000000) :
    Calls Tryz.prog 61 #[.slice (some ⟨g, 0, none⟩) N c, .int .i64 (N : Int), .func (.func F) #[] caps] w (SwW w B g c (isrt lt L)) := by
  have HL := Lib.hid hN; have TF := Lib.hid HF; have HW := Lib.hid hlt; have R0 := Lib.hid h
  have SYM := Lib.hid (symrW lt hlt F caps HF B g c N hbig)
  clear h hN hlt HF
  go_enter Tryz.func61, Tryz.ntmps61
  go_wp2
  go_loopw [7, 8] (fun x y wr => ∃ (a b : Nat) (Q : List Wr), Hid (b = a + 20) ∧ a ≤ N ∧ b ≤ 1000020 ∧ x = .int .i64 (a : Int) ∧ y = .int .i64 (b : Int) ∧ Hid (Q.length = a) ∧ Hid (blk lt 20 L = Q ++ blk lt 20 (L.drop a)) ∧ Hid (RowW wr B g c (Q ++ L.drop a)) ∧ Hid (w.grownBy wr (some g))) (fun _ y _ => 1000020 - (RowKit.intOf y).toNat)
  case atStart => exact ⟨0, 20, [], Lib.hid rfl, Nat.zero_le _, by omega, by go_num, by go_num, Lib.hid rfl, Lib.hid rfl, Lib.hid R0.out, Lib.hid (grRW _ _)⟩
  case round =>
    obtain ⟨a, b, Q, HB, haN, hb1, rfl, rfl, LQ, BQ, RR, GR⟩ := hrel
    clear R0
    by_cases hbN : b ≤ N
    · have hbN' : (b : Int) ≤ (N : Int) := by omega
      obtain ⟨b2, hb2⟩ : ∃ x, b + 20 = x := ⟨_, rfl⟩
      have hb2I : (b : Int) + 20 = (b2 : Int) := by omega
      have hb3 : b2 ≤ 1000020 := by omega
      have lD : 20 ≤ (L.drop a).length := by rw [List.length_drop, HL.out]; have := HB.out; omega
      have e1 : L.drop b = (L.drop a).drop 20 := by rw [List.drop_drop, HB.out]
      have e2 : Q ++ L.drop a = Q ++ ((L.drop a).take 20 ++ L.drop b) := by rw [e1, List.take_append_drop]
      have HC := Lib.hid (insW_is lt HW.out F caps TF.out B g c N Q ((L.drop a).take 20) (L.drop b) a b wr (by rw [← e2, List.length_append, List.length_drop, LQ.out, HL.out]; omega) (by rw [← e2]; exact RR.out) LQ.out.symm (by rw [List.length_take, LQ.out]; have := HB.out; omega) hbig)
      have BN : Hid (blk lt 20 L = (Q ++ isrt lt ((L.drop a).take 20)) ++ blk lt 20 (L.drop b)) := Lib.hid (by rw [BQ.out, blk_at lD (by omega), e1, List.append_assoc])
      have LN : Hid ((Q ++ isrt lt ((L.drop a).take 20)).length = b) := Lib.hid (by rw [List.length_append, isrt_len, List.length_take, LQ.out]; have := HB.out; omega)
      have HB2 := Lib.hid hb2.symm
      clear hb2 lD e1 e2 BQ LQ
      go_wp2_with fail
      refine HC.out.mono ?_
      rintro e w2 ⟨rfl, hr, hg⟩
      have R2 := Lib.hid hr
      have G2 := Lib.hid (grTW GR.out hg)
      clear hr hg HC RR GR
      dsimp only
      go_wp2
      go_roundw
      case rel => exact ⟨b, b2, _, HB2, hbN, hb3, rfl, rfl, LN, BN, Lib.hid (by rw [List.append_assoc]; exact R2.out), G2⟩
      case measure => simp [intOf]; have := HB2.out; omega
    · have hbN' : ¬ (b : Int) ≤ (N : Int) := by omega
      have HC := Lib.hid (insW_is lt HW.out F caps TF.out B g c N Q (L.drop a) [] a N wr (by rw [List.append_nil, List.length_append, List.length_drop, LQ.out, HL.out]; omega) (by rw [List.append_nil]; exact RR.out) LQ.out.symm (by rw [List.length_drop, LQ.out, HL.out]; omega) hbig)
      have BN : Hid (Q ++ isrt lt (L.drop a) = blk lt 20 L) := Lib.hid (by rw [BQ.out, blk_small (L := L.drop a) (by rw [List.length_drop, HL.out]; have := HB.out; omega)])
      go_wp2_with fail
      refine HC.out.mono ?_
      rintro e w2 ⟨rfl, hr, hg⟩
      rw [List.append_nil, BN.out] at hr
      have R2 := Lib.hid hr
      have G2 := Lib.hid (grTW GR.out hg)
      clear hr hg HC RR GR BN BQ LQ HB hbN hbN' hb1 haN
      dsimp only
      go_wp2
      go_loopw [6] (fun x wr => ∃ s : Nat, 20 ≤ s ∧ s ≤ 2000000 ∧ x = .int .i64 (s : Int) ∧ Hid (RowW wr B g c (blk lt s L)) ∧ Hid (w.grownBy wr (some g))) (fun x _ => 2000000 - (RowKit.intOf x).toNat)
      case atStart => exact ⟨20, Nat.le_refl _, by omega, by go_num, R2, G2⟩
      case round =>
        obtain ⟨s, hs1, hs2, rfl, RR, GR⟩ := hrel
        clear R2 G2
        by_cases hsN : s < N
        · have hsN' : (s : Int) < (N : Int) := by omega
          obtain ⟨d, hd⟩ : ∃ x, 2 * s = x := ⟨_, rfl⟩
          have hd1 : 2 * (s : Int) = (d : Int) := by omega
          have hd2 : (s : Int) * 2 = (d : Int) := by omega
          have hdb : d ≤ 2000000 := by omega
          have HD := Lib.hid hd.symm
          clear hd
          go_wp2
          go_loopw [7, 8] (fun x y wy => ∃ (p q : Nat) (Q : List Wr), Hid (q = p + d) ∧ p ≤ N ∧ q ≤ 3000000 ∧ x = .int .i64 (p : Int) ∧ y = .int .i64 (q : Int) ∧ Hid (Q.length = p) ∧ Hid (blk lt d L = Q ++ blk lt d (L.drop p)) ∧ Hid (RowW wy B g c (Q ++ blk lt s (L.drop p))) ∧ Hid (w.grownBy wy (some g))) (fun _ y _ => 3000000 - (RowKit.intOf y).toNat)
          case atStart => exact ⟨0, d, [], Lib.hid (Nat.zero_add _).symm, Nat.zero_le _, by omega, by go_num, rfl, Lib.hid rfl, Lib.hid rfl, RR, GR⟩
          case round =>
            obtain ⟨p, q, Q, HQ, hpN, hq1, rfl, rfl, LQ, BQ, R3, G3⟩ := hrel
            clear RR GR
            obtain ⟨mm, hmm⟩ : ∃ x, p + s = x := ⟨_, rfl⟩
            have hmI : (p : Int) + (s : Int) = (mm : Int) := by omega
            have hmb : mm ≤ 3000000 := by omega
            have HMM := Lib.hid hmm.symm
            clear hmm
            by_cases hqN : q ≤ N
            · have hqN' : (q : Int) ≤ (N : Int) := by omega
              obtain ⟨q2, hq2⟩ : ∃ x, q + d = x := ⟨_, rfl⟩
              have hq2I : (q : Int) + (d : Int) = (q2 : Int) := by omega
              have hq3 : q2 ≤ 3000000 := by omega
              have hq4 : q < q2 := by have := HD.out; omega
              obtain ⟨U, V, e1, lU, lV, sU, sV, e2⟩ := blk_two HW.out (bs := s) (L := L.drop p) (by omega) (by rw [List.length_drop, HL.out]; have := HQ.out; have := HD.out; omega)
              have e3 : (L.drop p).drop (2 * s) = L.drop q := by rw [List.drop_drop, HQ.out, HD.out]
              rw [e3] at e1 e2
              rw [← HD.out] at e2
              have lS : (blk lt s (L.drop q)).length = N - q := by rw [blk_len (by omega) _ _ (Nat.le_refl _), List.length_drop, HL.out]
              have HC := Lib.hid (SYM.out _ Q U V (blk lt s (L.drop q)) p mm q wr (Nat.le_refl _) (by rw [List.length_append, List.length_append, List.length_append, lS, lU, lV, LQ.out]; have := HQ.out; have := HD.out; omega) (by rw [← e1]; exact R3.out) sU sV (by omega) (by omega) LQ.out.symm (by rw [LQ.out, lU]; exact HMM.out) (by rw [LQ.out, lU, lV]; have := HQ.out; have := HD.out; omega))
              have BN : Hid (blk lt d L = (Q ++ mrg lt U V) ++ blk lt d (L.drop q)) := Lib.hid (by rw [BQ.out, e2, List.append_assoc])
              have LN : Hid ((Q ++ mrg lt U V).length = q) := Lib.hid (by rw [List.length_append, mrg_len, lU, lV, LQ.out]; have := HQ.out; have := HD.out; omega)
              have HQ2 := Lib.hid hq2.symm
              clear hq2 e1 e2 e3 lU lV sU sV lS BQ LQ
              go_wp2_with fail
              refine HC.out.mono ?_
              rintro e w3 ⟨rfl, hr, hg⟩
              have R4 := Lib.hid hr
              have G4 := Lib.hid (grTW G3.out hg)
              clear hr hg HC R3 G3
              dsimp only
              go_wp2
              go_roundw
              case rel => exact ⟨q, q2, _, HQ2, hqN, hq3, rfl, rfl, LN, BN, Lib.hid (by rw [List.append_assoc]; exact R4.out), G4⟩
              case measure => simp [intOf]; omega
            · have hqN' : ¬ (q : Int) ≤ (N : Int) := by omega
              by_cases hmN : mm < N
              · have hmN' : (mm : Int) < (N : Int) := by omega
                obtain ⟨U, V, e1, lU, lV, sU, sV, e2⟩ := blk_rest HW.out (bs := s) (L := L.drop p) (by omega) (by rw [List.length_drop, HL.out]; have := HMM.out; omega) (by rw [List.length_drop, HL.out]; have := HQ.out; have := HD.out; omega)
                rw [← HD.out] at e2
                rw [List.length_drop, HL.out] at lV
                have HC := Lib.hid (SYM.out _ Q U V [] p mm N wr (Nat.le_refl _) (by rw [List.append_nil, List.length_append, List.length_append, lU, lV, LQ.out]; have := HMM.out; omega) (by rw [List.append_nil, ← e1]; exact R3.out) sU sV (by omega) (by have := HMM.out; omega) LQ.out.symm (by rw [LQ.out, lU]; exact HMM.out) (by rw [LQ.out, lU, lV]; have := HMM.out; omega))
                have BN : Hid (Q ++ mrg lt U V = blk lt d L) := Lib.hid (by rw [BQ.out, e2])
                clear e1 e2 lU lV sU sV BQ LQ
                go_wp2_with fail
                refine HC.out.mono ?_
                rintro e w3 ⟨rfl, hr, hg⟩
                rw [List.append_nil, BN.out] at hr
                have R4 := Lib.hid hr
                have G4 := Lib.hid (grTW G3.out hg)
                clear hr hg HC R3 G3 BN
                dsimp only
                go_wp2
                go_roundw
                case rel => exact ⟨d, by have := HD.out; omega, hdb, rfl, R4, G4⟩
                case measure => simp [intOf]; have := HD.out; omega
              · have hmN' : ¬ (mm : Int) < (N : Int) := by omega
                have R4 : Hid (RowW wr B g c (blk lt d L)) := Lib.hid (by
                  have h1 := R3.out
                  rw [blk_small (L := L.drop p) (bs := s) (by rw [List.length_drop, HL.out]; have := HMM.out; omega)] at h1
                  rw [BQ.out, blk_small (L := L.drop p) (bs := d) (by rw [List.length_drop, HL.out]; have := HMM.out; have := HD.out; omega)]
                  exact h1)
                clear R3 BQ LQ
                go_wp2
                go_roundw
                case rel => exact ⟨d, by have := HD.out; omega, hdb, rfl, R4, G3⟩
                case measure => simp [intOf]; have := HD.out; omega
        · have hsN' : ¬ (s : Int) < (N : Int) := by omega
          have RF : Hid (RowW wr B g c (isrt lt L)) := Lib.hid (by
            have := RR.out
            rw [blk_small (by rw [HL.out]; omega)] at this
            exact this)
          clear RR
          go_wp2
          exact bodyPost_end (results_none rfl _ _ _) rfl ⟨rfl, RF.out, GR.out⟩
theorem stsW_is (lt : Wr → Wr → Bool) (hlt : SW lt) (F : FuncId) (caps : Array Value) (HF : TellsW F caps lt) (B g c : Nat) (L : List Wr) (w : World) (h : RowW w B g c L) (hbig : L.length ≤ 1000000) :
    Calls Tryz.prog 37 #[.slice (some ⟨g, 0, none⟩) L.length c, .func (.func F) #[] caps] w (SwW w B g c (isrt lt L)) := by
  have HC := Lib.hid (stbW_is lt hlt F caps HF B g c L.length L w rfl h hbig)
  clear h HF
  go_enter Tryz.func37, Tryz.ntmps37
  go_wp2_with fail
  refine HC.out.mono ?_
  rintro e w2 ⟨rfl, hr, hg⟩
  have R2 := Lib.hid hr; have G2 := Lib.hid hg
  clear hr hg HC
  dsimp only
  go_wp2
  exact bodyPost_end (results_none rfl _ _ _) rfl ⟨rfl, R2.out, G2.out⟩
end Go.Proofs.YtijmijokgenflaaGreatDoor
/- slices.SortStableFunc of a row of writes of one's own, or nothing, by any order. -/
namespace Go.Proofs.YtijmijokgenflaaGreatDoor
open Go Go.RowKit
set_option linter.unusedVariables false
set_option maxRecDepth 1000000

/-- nothing is in order -/
theorem insNilL (F : FuncId) (w : World) : Calls Tryz.prog 95 #[.slice none 0 0, .int .i64 0, .int .i64 0, .func (.func F) #[] #[]] w (fun e w' => e = .returned (.tuple #[]) ∧ w' = w) := by
  go_enter Tryz.func95, Tryz.ntmps95
  go_wp2
  go_loopw [8] (fun v wr => v = .int .i64 1 ∧ wr = w) (fun v _ => 0)
  case atStart => exact ⟨rfl, rfl⟩
  case round =>
    obtain ⟨rfl, hw⟩ := hrel
    subst wr
    go_wp2
    exact bodyPost_end (results_none rfl _ _ _) rfl ⟨rfl, rfl⟩
theorem stbNilL (F : FuncId) (w : World) : Calls Tryz.prog 61 #[.slice none 0 0, .int .i64 0, .func (.func F) #[] #[]] w (fun e w' => e = .returned (.tuple #[]) ∧ w' = w) := by
  have HC := Lib.hid (insNilL F w)
  go_enter Tryz.func61, Tryz.ntmps61
  go_wp2
  go_loopw [7, 8] (fun x y wr => x = .int .i64 0 ∧ y = .int .i64 20 ∧ wr = w) (fun _ y _ => 0)
  case atStart => exact ⟨rfl, rfl, rfl⟩
  case round =>
    obtain ⟨rfl, rfl, hw⟩ := hrel
    subst wr
    go_wp2_with fail
    refine HC.out.mono ?_
    rintro e w2 ⟨rfl, hw2⟩
    subst w2
    clear HC
    dsimp only
    go_wp2
    go_loopw [6] (fun x wr => x = .int .i64 20 ∧ wr = w) (fun x _ => 0)
    case atStart => exact ⟨rfl, rfl⟩
    case round =>
      obtain ⟨rfl, hw⟩ := hrel
      subst wr
      go_wp2
      exact bodyPost_end (results_none rfl _ _ _) rfl ⟨rfl, rfl⟩
theorem stsNilL (F : FuncId) (w : World) : Calls Tryz.prog 37 #[.slice none 0 0, .func (.func F) #[] #[]] w (fun e w' => e = .returned (.tuple #[]) ∧ w' = w) := by
  have HC := Lib.hid (stbNilL F w)
  go_enter Tryz.func37, Tryz.ntmps37
  go_wp2_with fail
  refine HC.out.mono ?_
  rintro e w2 ⟨rfl, hw2⟩
  subst w2
  clear HC
  dsimp only
  go_wp2
  exact bodyPost_end (results_none rfl _ _ _) rfl ⟨rfl, rfl⟩
/-- a row of one's own, or nothing, put in order -/
theorem stsAnyL (lt : Wr → Wr → Bool) (hlt : SW lt) (F : FuncId) (HF : TellsW F #[] lt) (B : Nat) (p : Option Addr) (c : Nat) (L : List Wr) (w : World) (h : w.ownsRow B 39 6 (.slice p L.length c) L.length (wcl L)) (hn : L.length ≤ 1000000) (hB : B ≤ w.heap.size) :
    Calls Tryz.prog 37 #[.slice p L.length c, .func (.func F) #[] #[]] w (fun e w' => e = .returned (.tuple #[]) ∧ w'.ownsRow B 39 6 (.slice p L.length c) L.length (wcl (isrt lt L)) ∧ Below B w w') := by
  rcases h.2 with ⟨h0, h1⟩ | ⟨g, cap, cur, h0, hg, _⟩
  · injection h0 with h0 h2 h3
    subst h0
    obtain rfl := List.eq_nil_of_length_eq_zero h2
    subst h3
    refine (stsNilL _ w).mono ?_
    rintro e w' ⟨rfl, rfl⟩
    exact ⟨rfl, h, Below.refl _ _⟩
  · injection h0 with h0 h2 h3
    subst h0
    subst h3
    refine (stsW_is lt hlt F #[] HF B g c L w h hn).mono ?_
    rintro e w' ⟨rfl, hr, hgr⟩
    have e1 := isrt_len (lt := lt) L
    unfold RowW at hr
    rw [e1] at hr
    exact ⟨rfl, hr, grown_below hgr hB hg⟩
end Go.Proofs.YtijmijokgenflaaGreatDoor
