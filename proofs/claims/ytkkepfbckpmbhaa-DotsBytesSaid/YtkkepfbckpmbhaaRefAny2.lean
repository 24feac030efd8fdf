/- The document's reader of any bytes: Num. -/
import Derived.Test.YtkkepfbckpmbhaaRefAny1
import Derived.Test.YtkkepfbckpmbhaaCoderAny2
namespace Go.Proofs.Ytkkepfbckpmbhaa
open Go Go.RowKit
set_option linter.unusedVariables false

theorem RRd.err {w : World} {A lo : Nat} {s : Cod.S} (h : RRd w A lo s) : w.cell? ⟨A, 1, none⟩ = some (.int .i64 (s.2 : Int)) := by
  obtain ⟨p, c, h1, _⟩ := h
  exact (r_cells h1).2
set_option maxHeartbeats 1000000 in
set_option maxRecDepth 100000 in
theorem refNum_all (A lo : Nat) (most : Int) (s : Cod.S) (w : World) (h : RRd w A lo s) (hl : s.1.length ≤ 140737488355328) (hm : -9223372036854775808 ≤ most ∧ most ≤ 9223372036854775807) :
    Calls Try.prog 60 #[.pointer (some ⟨A, 0, none⟩), .int .i64 most] w (GotR w A lo (.int .i64 (Cod.numS most s).1) (Cod.numS most s).2) := by
  have N := Lib.hid (refNumber_all A lo s w h hl)
  have hx := Cod.anyS_lt s
  have hz := fun e => Cod.anyS_zero (s := s) e
  unfold Cod.numS
  generalize Cod.anyS s = r at N hx hz ⊢
  obtain ⟨x, t⟩ := r
  simp only at N hx hz ⊢
  obtain ⟨m1, m2⟩ := hm
  clear h hl
  by_cases hbig : 9223372036854775808 ≤ x
  · rw [if_pos (.inl hbig)]
    have hq : (x : Int) ≥ 9223372036854775808 := by omega
    clear hbig
    go_enter Try.func60, Try.ntmps60
    go_wp2_with fail
    refine N.out.mono ?_
    rintro e w1 ⟨rfl, h1, g1⟩
    have F := Lib.hid (refFail_any A lo 5 t w1 h1 (by omega))
    have G1 := Lib.hid g1
    clear h1 g1 N
    go_wp2_with fail
    refine F.out.mono ?_
    rintro e w2 ⟨rfl, h2, g2⟩
    have H2 := Lib.hid h2; have G2 := Lib.hid (grown_trans G1.out g2)
    clear h2 g2 F
    go_wp2
    go_ret
    exact ⟨rfl, H2.out, G2.out⟩
  · have hq : ¬ (x : Int) ≥ 9223372036854775808 := by omega
    by_cases hgt : most < (x : Int)
    · rw [if_pos (.inr hgt)]
      have hgt' : (x : Int) > most := hgt
      clear hbig
      by_cases he : t.2 = 0
      · have hf : Cod.failS 5 t = ([], 5) := if_pos he
        go_enter Try.func60, Try.ntmps60
        go_wp2_with fail
        refine N.out.mono ?_
        rintro e w1 ⟨rfl, h1, g1⟩
        have F := Lib.hid (refFail_any A lo 5 t w1 h1 (by omega))
        have G1 := Lib.hid g1
        have c1 := h1.err
        rw [he] at c1
        clear h1 g1 N he hf
        go_wp2_with fail
        refine F.out.mono ?_
        rintro e w2 ⟨rfl, h2, g2⟩
        have H2 := Lib.hid h2; have G2 := Lib.hid (grown_trans G1.out g2)
        clear h2 g2 F
        go_wp2
        go_ret
        exact ⟨rfl, H2.out, G2.out⟩
      · have hx0 := hz he
        subst hx0
        have hf : Cod.failS 5 t = t := if_neg he
        rw [hf]
        have he' : ¬ (t.2 : Int) = 0 := by omega
        clear he hf hgt hgt' hq hx hz
        go_enter Try.func60, Try.ntmps60
        go_wp2_with fail
        refine N.out.mono ?_
        rintro e w1 ⟨rfl, h1, g1⟩
        have H1 := Lib.hid h1
        have G1 := Lib.hid g1
        have c1 := h1.err
        generalize (t.2 : Int) = ee at c1 he'
        clear h1 g1 N
        go_wp2
        go_ret
        exact ⟨rfl, H1.out, G1.out⟩
    · rw [if_neg (by omega)]
      have hgt' : ¬ (x : Int) > most := hgt
      by_cases he : t.2 = 0
      · go_enter Try.func60, Try.ntmps60
        go_wp2_with fail
        refine N.out.mono ?_
        rintro e w1 ⟨rfl, h1, g1⟩
        have H1 := Lib.hid h1; have G1 := Lib.hid g1
        have c1 := h1.err
        rw [he] at c1
        have hge : ((x : Int) ≥ 9223372036854775808) = False := by simp; omega
        have hgd : decide ((x : Int) ≥ 9223372036854775808) = false := by simp; omega
        have hq2 : (x : Int) / 9223372036854775808 = 0 := by omega
        clear h1 g1 N he hq hx hz
        go_wp2
        go_ret
        exact ⟨rfl, H1.out, G1.out⟩
      · have hx0 := hz he
        subst hx0
        have he' : ¬ (t.2 : Int) = 0 := by omega
        clear he hgt hgt' hq hx hz
        go_enter Try.func60, Try.ntmps60
        go_wp2_with fail
        refine N.out.mono ?_
        rintro e w1 ⟨rfl, h1, g1⟩
        have H1 := Lib.hid h1; have G1 := Lib.hid g1
        have c1 := h1.err
        generalize (t.2 : Int) = ee at c1 he'
        clear h1 g1 N
        go_wp2
        go_ret
        exact ⟨rfl, H1.out, G1.out⟩
/-- what reading numbers that rise comes to, of the document's -/
def GotRiseR (w : World) (A lo : Nat) (r : Option (List Int) × Cod.S) (e : Ending) (w' : World) : Prop :=
  ∃ v, e = .returned v ∧ w'.ownsRow w.heap.size 3 1 v (r.1.getD []).length (ints (r.1.getD [])) ∧ RRd w' A lo r.2 ∧ w.grownBy w' (some A)

set_option maxHeartbeats 4000000 in
set_option maxRecDepth 100000 in
theorem refRising_all (A lo : Nat) (many top : Int) (s : Cod.S) (w : World) (h : RRd w A lo s) (hl : s.1.length ≤ 140737488355328) (hm : 0 ≤ many ∧ many ≤ 100000) (ht : -1 ≤ top ∧ top ≤ 9223372036854775807) :
    Calls Try.prog 59 #[.pointer (some ⟨A, 0, none⟩), .int .i64 many, .int .i64 top] w (GotRiseR w A lo (Cod.riseAll many top s)) := by
  have hBw := h.lt
  have N1 := Lib.hid (refNum_all A lo many s w h hl (by omega))
  have hn := numS_small (s := s) hm.1
  obtain ⟨R, hR⟩ : ∃ R, R = Cod.riseAll many top s := ⟨_, rfl⟩
  rw [← hR]
  have HR : Hid (Cod.riseS top (Cod.numS many s).1 (-1) [] (Cod.numS many s).2 = R) := by show Cod.riseS _ _ _ _ _ = R; rw [hR]; rfl
  have hlen := Cod.numS_len many s
  generalize Cod.numS many s = q at N1 hn HR hlen
  obtain ⟨n, s1⟩ := q
  simp only at N1 hn HR hlen
  have HL : Hid (s1.1.length ≤ 140737488355328) := Nat.le_trans hlen hl
  obtain ⟨hm1, hm2⟩ := hm
  obtain ⟨ht1, ht2⟩ := ht
  have hn5 : n ≤ 100000 := by omega
  clear h hl hR hlen hn
  go_enter Try.func59, Try.ntmps59
  go_wp2_with fail
  refine N1.out.mono ?_
  rintro e w1 ⟨rfl, r1, g1⟩
  have R1 := Lib.hid r1; have G1 := Lib.hid g1
  clear r1 g1 N1
  go_wp2
  go_loopw [8, 16] (fun v i wr => ∃ (k : Nat) (acc : List Int) (st : Cod.S), k ≤ n ∧ i = .int .i64 k ∧ (-1 ≤ Cod.lastOf acc k ∧ (k ≠ 0 → 0 ≤ Cod.lastOf acc k)) ∧ Cod.lastOf acc k ≤ top ∧ acc.length = k ∧ Cod.riseS top (n - k) (Cod.lastOf acc k) acc st = R ∧ st.1.length ≤ 140737488355328 ∧ wr.ownsRow w.heap.size 3 1 v k (ints acc) ∧ RRd wr A lo st ∧ w.grownBy wr (some A)) (fun _ i _ => n - (intOf i).toNat)
  case atStart => exact ⟨0, [], s1, Nat.zero_le _, rfl, ⟨by decide, fun h => absurd rfl h⟩, ht1, rfl, by rw [Nat.sub_zero]; exact HR.out, HL.out, World.ownsRow_nil _ _ _ _, R1.out, G1.out⟩
  case round =>
    obtain ⟨k, acc, st, hk, rfl, ⟨hl1, hl0⟩, hl2, hacc, hrs, hst, hown, hrd, hgr⟩ := hrel
    have OW := Lib.hid hown; have RD := Lib.hid hrd; have GR := Lib.hid hgr; have RS := Lib.hid hrs; have AC := Lib.hid hacc; have ST := Lib.hid hst
    clear hgr hrs hst hrd
    by_cases hkn : k < n
    · obtain ⟨last, hlast⟩ : ∃ last, last = Cod.lastOf acc k := ⟨_, rfl⟩
      rw [← hlast] at hl1 hl2 hl0
      have hrs := RS.out
      rw [← hlast] at hrs
      have NU := Lib.hid (refNum_all A lo (top - 1 - last) st _ RD.out ST.out (by omega))
      have NU0 : Hid (k = 0 → top - 1 - last = top) := fun e => by subst e; rw [hlast]; unfold Cod.lastOf; rw [if_pos rfl]; omega
      rw [show n - k = (n - (k + 1)) + 1 by omega] at hrs
      have hrs : (if (Cod.numS (top - 1 - last) st).2.2 = 0 then Cod.riseS top (n - (k + 1)) (last + 1 + (Cod.numS (top - 1 - last) st).1) (acc ++ [last + 1 + ((Cod.numS (top - 1 - last) st).1 : Int)]) (Cod.numS (top - 1 - last) st).2 else (none, (Cod.numS (top - 1 - last) st).2)) = R := hrs
      have hle := fun e => Cod.numS_le (s := st) (most := top - 1 - last) e
      have hln := Cod.numS_len (top - 1 - last) st
      generalize Cod.numS (top - 1 - last) st = q at NU hrs hle hln
      obtain ⟨d, s2⟩ := q
      simp only at NU hrs hle hln
      have hln2 : Hid (s2.1.length ≤ 140737488355328) := Nat.le_trans hln ST.out
      have hkn' : (k : Int) < n := by omega
      have LA : ∀ x : Int, Hid (Cod.lastOf (acc ++ [x]) (k + 1) = x) := fun x => by
        show Cod.lastOf (acc ++ [x]) (k + 1) = x
        unfold Cod.lastOf
        rw [if_neg (by omega), ← hacc]
        simp [List.getD]
      clear hln
      by_cases hk0 : k = 0
      · subst hk0
        have h00 := NU0.out rfl
        rw [h00] at NU
        have hl00 : last = -1 := by rw [hlast]; rfl
        subst hl00
        clear hlast h00 hl1 hl2 hl0 hown
        by_cases he : s2.2 = 0
        · rw [if_pos he] at hrs
          obtain ⟨hd1, hd2⟩ := hle he
          have HS := Lib.hid hrs
          have HE := Lib.hid he
          clear hle hrs he RS
          go_wp2_with fail
          refine NU.out.mono ?_
          rintro e w2 ⟨rfl, r2, g2⟩
          have c1 := r2.err
          rw [HE.out] at c1
          have R2 := Lib.hid r2; have G2 := Lib.hid (grown_trans GR.out g2); have O2 := Lib.hid (ownI_stays OW.out g2 hBw)
          clear r2 g2 NU OW RD GR
          have hsz := G2.out.size
          go_wp2_with (at_builtin; refine wpList_int isI64 _ rfl _ _ rfl w.heap.size 0 acc _ rfl O2.out _ rfl (by omega) hsz ?_)
          intro v3 w3 own3 b3
          have O3 := Lib.hid own3; have B3 := Lib.hid b3
          have ed : (-1 : Int) + 1 + (d : Int) = d := by omega
          have HS2 := HS.out
          rw [ed] at HS2
          have HS3 := Lib.hid HS2
          clear own3 b3 c1 HS2 HS
          go_wp2
          go_roundw
          case rel => exact ⟨0 + 1, acc ++ [(d : Int)], s2, by omega, by go_num, ⟨by (rw [(LA _).out]; omega), fun _ => by (rw [(LA _).out]; omega)⟩, by (rw [(LA _).out]; omega), by rw [List.length_append, AC.out]; rfl, by (rw [(LA _).out]; exact HS3.out), hln2.out, O3.out, R2.out.under hBw B3.out, grown_carry G2.out B3.out⟩
          case measure => simp [intOf]; omega
        · rw [if_neg he] at hrs
          have he' : ¬ (s2.2 : Int) = 0 := by omega
          subst hrs
          clear hle he RS HR
          go_wp2_with fail
          refine NU.out.mono ?_
          rintro e w2 ⟨rfl, r2, g2⟩
          have c1 := r2.err
          have R2 := Lib.hid r2; have G2 := Lib.hid (grown_trans GR.out g2)
          generalize (s2.2 : Int) = ee at c1 he'
          clear r2 g2 NU OW RD GR
          go_wp2
          go_ret
          exact ⟨_, rfl, World.ownsRow_nil _ _ _ _, R2.out, G2.out⟩
      · have hkpos : (k : Int) > 0 := by omega
        have hl9 := hl0 hk0
        clear hl0
        obtain ⟨hkq, q, d0, rfl, _, hli, _⟩ := own_liesI hown
        clear hkq
        obtain ⟨b1, o1, rfl, _, hcs⟩ := hli.at (by rw [hacc]; omega)
        have hck := hcs (k - 1) (by rw [hacc]; omega)
        have hlk : acc.getD (k - 1) 0 = last := by rw [hlast]; unfold Cod.lastOf; rw [if_neg hk0]
        rw [hlk] at hck
        rw [show top - 1 - last = top - last - 1 by omega] at NU hle
        rw [hacc] at hown ⊢
        have OW := Lib.hid hown
        have hki : (k : Int) - 1 < (k : Int) := by omega
        have hki0 : (0 : Int) ≤ (k : Int) - 1 := by omega
        have hkt : ((k : Int) - 1).toNat = k - 1 := by omega
        have HAC := Lib.hid hacc
        clear hcs hli hown hlast hacc
        by_cases he : s2.2 = 0
        · rw [if_pos he] at hrs
          obtain ⟨hd1, hd2⟩ := hle he
          have HS := Lib.hid hrs
          have HE := Lib.hid he
          have LK := Lib.hid hlk
          clear hle hrs he RS hlk
          go_wp2_with fail
          refine NU.out.mono ?_
          rintro e w2 ⟨rfl, r2, g2⟩
          have c1 := r2.err
          rw [HE.out] at c1
          have R2 := Lib.hid r2; have G2 := Lib.hid (grown_trans GR.out g2); have O2 := Lib.hid (ownI_stays OW.out g2 hBw)
          obtain ⟨hkq, q2, d2, hv2, _, hli2, _⟩ := own_liesI O2.out
          clear hkq
          simp only [Value.slice.injEq] at hv2
          have hq2 := hv2.1
          clear hv2
          subst hq2
          obtain ⟨b3, o3, hb3, _, hcs2⟩ := hli2.at (by have := HAC.out; omega)
          simp only [Option.some.injEq, Addr.mk.injEq] at hb3
          obtain ⟨rfl, rfl, _⟩ := hb3
          have hck2 := hcs2 (k - 1) (by have := HAC.out; omega)
          rw [LK.out] at hck2
          clear r2 g2 NU OW RD GR hck hli2 hcs2
          have hsz := G2.out.size
          have hl1' : (-9223372036854775808 : Int) ≤ last + 1 + d := by omega
          have hl2' : last + 1 + (d : Int) ≤ 9223372036854775807 := by omega
          go_wp2_with (at_builtin; refine wpList_int isI64 _ rfl _ _ rfl w.heap.size k acc _ rfl O2.out _ rfl (by omega) hsz ?_)
          intro v3 w3 own3 b3
          have O3 := Lib.hid own3; have B3 := Lib.hid b3
          clear own3 b3 c1 hck2
          go_wp2
          go_roundw
          case rel => exact ⟨k + 1, acc ++ [last + 1 + (d : Int)], s2, by omega, by go_num, ⟨by (rw [(LA _).out]; omega), fun _ => by (rw [(LA _).out]; omega)⟩, by (rw [(LA _).out]; omega), by rw [List.length_append, AC.out]; rfl, by (rw [(LA _).out]; exact HS.out), hln2.out, O3.out, R2.out.under hBw B3.out, grown_carry G2.out B3.out⟩
          case measure => simp [intOf]; omega
        · rw [if_neg he] at hrs
          have he' : ¬ (s2.2 : Int) = 0 := by omega
          subst hrs
          clear hle he RS HR hlk
          go_wp2_with fail
          refine NU.out.mono ?_
          rintro e w2 ⟨rfl, r2, g2⟩
          have c1 := r2.err
          have R2 := Lib.hid r2; have G2 := Lib.hid (grown_trans GR.out g2)
          generalize (s2.2 : Int) = ee at c1 he'
          clear r2 g2 NU OW RD GR
          go_wp2
          go_ret
          exact ⟨_, rfl, World.ownsRow_nil _ _ _ _, R2.out, G2.out⟩
    · obtain rfl : k = n := by omega
      have hkn' : ¬ (k : Int) < k := by omega
      have hrs := RS.out
      rw [Nat.sub_self] at hrs
      have HS : Hid ((some acc, st) = R) := hrs
      clear hrs RS HR hl1 hl2 hl0 hown
      go_wp2
      go_ret
      rw [← HS.out]
      refine ⟨_, rfl, ?_, RD.out, GR.out⟩
      have := OW.out
      rw [← AC.out] at this
      exact this
end Go.Proofs.Ytkkepfbckpmbhaa
