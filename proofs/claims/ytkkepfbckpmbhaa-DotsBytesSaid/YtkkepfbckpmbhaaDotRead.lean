/- A vector of any bytes: as the program reads it, and as the document does. -/
import Derived.Test.YtkkepfbckpmbhaaDotPlain
import Derived.Test.YtkkepfbckpmbhaaRefAny2
namespace Go.Proofs.Ytkkepfbckpmbhaa
open Go Go.RowKit
set_option linter.unusedVariables false

theorem RdA.beside {w w' : World} {B A : Nat} {s : Cod.S} (h : RdA w B s) (hg : w.grownBy w' (some A)) (hA : B < A) : RdA w' B s := by
  have hlt := h.lt
  have hB : w'.heap[B]? = w.heap[B]? := hg.block B hlt (fun e => by have e2 : B = A := Option.some.inj e; omega)
  rcases h with ⟨h1, b, o, c, h2, h3, h4, h5⟩ | ⟨h1, h2⟩
  · exact .inl ⟨h1, b, o, c, hB.trans h2, fun i hi => hg.cell (h3 i hi) (fun e => by have e2 : b = A := Option.some.inj e; omega), h4, h5⟩
  · exact .inr ⟨h1, hB.trans h2⟩
theorem RRd.beside {w w' : World} {A lo B : Nat} {s : Cod.S} (h : RRd w A lo s) (hg : w.grownBy w' (some B)) (hB : A < B) : RRd w' A lo s :=
  h.kept (hg.block A h.lt (fun e => by have e2 : A = B := Option.some.inj e; omega)) (fun b _ hb => hg.block b (Nat.lt_trans hb h.lt) (fun e => by have e2 : b = B := Option.some.inj e; omega))
def GotV (w : World) (B : Nat) (f : Nat → Int) (s : Cod.S) (e : Ending) (w' : World) : Prop := e = .returned (.agg (vf f)) ∧ RdA w' B s ∧ w.grownBy w' (some B)
def GotVR (w : World) (A lo : Nat) (f : Nat → Int) (s : Cod.S) (e : Ending) (w' : World) : Prop := e = .returned (.agg (vf f)) ∧ RRd w' A lo s ∧ w.grownBy w' (some A)
theorem vec_post {P : Program} {t e : TypeId} (V : Vec P t e) {fn : Func} {p : Tmp} (h : fn.results = #[.cell p t]) {a : Act} {w : World} {g : Nat} {ty : TypeId} {f : Nat → Int} {Q : Ending → World → Prop} (hp : a.tmps.getD p undef = .pointer (some ⟨g, 0, none⟩)) (hd : a.defers = []) (hr : Row w g ty f)
    (hQ : Q (.returned (.agg (vf f))) w) : bodyPost P fn Q .ret a w :=
  bodyPost_ret (v := .agg (vf f)) (results_cell_row h a.tmps w g ty (vf f) (0, 0) _ hp hr V.array rfl (by rw [vf_size]; exact V.whole)) hd hQ
theorem built0 (w : World) : (Instr.build 25 #[]).run Try.prog w = .ok (.agg (vf fun _ => 0)) w := by rw [vf_zero]; kernel_rfl

set_option maxHeartbeats 4000000 in
set_option maxRecDepth 100000 in
theorem vread_is (B : Nat) (s : Cod.S) (w : World) (h : RdA w B s) (hl : s.1.length ≤ 140737488355328) :
    Calls Try.prog 33 #[.pointer (some ⟨B, 0, none⟩)] w (GotV w B (outV s) (outS s)) := by
  have hBw := h.lt
  have H := Lib.hid h
  clear h
  obtain ⟨OVv, hOVv⟩ : ∃ x, x = outV s := ⟨_, rfl⟩
  obtain ⟨OSv, hOSv⟩ : ∃ x, x = outS s := ⟨_, rfl⟩
  rw [← hOVv, ← hOSv]
  go_enter Try.func33, Try.ntmps33
  go_wp2_with (refine wpList_valloc vecI zeroV rfl rfl ?_)
  intro gr w1 lr rr hb1
  have B1 := Lib.hid hb1; have RR1 := Lib.hid rr
  clear hb1 rr
  go_wp2_with (refine wpList_valloc vecI zeroV rfl rfl ?_)
  intro gv w2 lv rv hb2
  have hrv : gr < gv := Nat.lt_of_lt_of_le RR1.out.lt lv
  have B2 := Lib.hid (thenBelow B1.out hb2); have RR2 := Lib.hid (RR1.out.later hb2); have RV2 := Lib.hid rv
  have hlow := Nat.le_trans B1.out.size lv
  have H2 := Lib.hid (H.out.below B2.out)
  have hgv2 := rv.lt
  have hz2 := B2.out.size
  clear hb2 rv H B1 RR1
  have R := Lib.hid (rising_all B 64 63 s w2 H2.out hl (by omega) (by omega))
  have hr1 := rdR_len s
  have AT : Hid (∀ k, k < (rdL s).length → ∃ i : Nat, i < 64 ∧ (rdL s).getD k 0 = (i : Int)) := rdL_at s
  have ST : Hid (∀ k, k < (rdL s).length → fillS ((rdL s).take (k + 1)) (fun _ => 0) (Cod.riseAll 64 63 s).2 = (vset (fillS ((rdL s).take k) (fun _ => 0) (Cod.riseAll 64 63 s).2).1 ((rdL s).getD k 0).toNat (((Cod.numS 1073741823 (fillS ((rdL s).take k) (fun _ => 0) (Cod.riseAll 64 63 s).2).2).1 : Int) + 1), (Cod.numS 1073741823 (fillS ((rdL s).take k) (fun _ => 0) (Cod.riseAll 64 63 s).2).2).2)) := fun k hk => fillS_step _ _ _ k hk
  have OS : Hid (OSv = (fillS ((rdL s).take (rdL s).length) (fun _ => 0) (Cod.riseAll 64 63 s).2).2) := by show OSv = _; rw [hOSv, List.take_length]; rfl
  have OV : Hid (OVv = if OSv.2 = 0 then (fillS ((rdL s).take (rdL s).length) (fun _ => 0) (Cod.riseAll 64 63 s).2).1 else fun _ => 0) := by show OVv = _; rw [hOVv, hOSv, List.take_length]; rfl
  have LN : Hid (∀ k, (fillS ((rdL s).take k) (fun _ => 0) (Cod.riseAll 64 63 s).2).2.1.length ≤ 140737488355328) := fun k => Nat.le_trans (fillS_len _ _ _) (Nat.le_trans hr1 hl)
  have L64 : Hid ((rdL s).length < 9223372036854775807) := by
    show (rdL s).length < _
    have h1 := riseS_lenL 63 (Cod.numS 64 s).1 (-1) [] (Cod.numS 64 s).2
    have h2 := numS_small (s := s) (many := 64) (by omega)
    have h3 : (rdL s).length ≤ [].length + (Cod.numS 64 s).1 := h1
    simp only [List.length_nil] at h3
    omega
  have eL : (Cod.riseAll 64 63 s).1.getD [] = rdL s := rfl
  clear hOVv hOSv
  unfold GotRise at R
  rw [eL] at R
  generalize rdL s = l at R AT ST OS OV LN L64
  generalize (Cod.riseAll 64 63 s).2 = s1 at R ST OS OV LN
  clear hr1 eL hl
  go_wp2_with fail
  refine R.out.mono ?_
  rintro e w3 ⟨v3, rfl, ho3, hr3, hg3⟩
  obtain ⟨hkk, q, d, rfl, _, _, _⟩ := own_liesI ho3
  clear hkk
  have O3 := Lib.hid ho3; have D3 := Lib.hid hr3
  have RR3 := Lib.hid (RR2.out.kept hg3 (fun e => by have e2 : gr = B := Option.some.inj e; omega))
  have RV3 := Lib.hid (RV2.out.kept hg3 (fun e => by have e2 : gv = B := Option.some.inj e; omega))
  have G3 := Lib.hid (grown_trans (grown_of_below B2.out (r := some B)) hg3)
  have hz3 := hg3.size
  clear ho3 hr3 hg3 R RR2 RV2 H2
  have hL := L64.out
  go_wp2
  go_loopw [9] (fun i wr => ∃ k : Nat, k ≤ l.length ∧ i = .int .i64 k ∧ wr.ownsRow w2.heap.size 3 1 (.slice q l.length d) l.length (ints l) ∧ RdA wr B (fillS (l.take k) (fun _ => 0) s1).2 ∧ Row wr gv 25 (fillS (l.take k) (fun _ => 0) s1).1 ∧ Row wr gr 25 (fun _ => 0) ∧ w.grownBy wr (some B)) (fun i _ => l.length - (intOf i).toNat)
  case atStart => exact ⟨0, by omega, rfl, O3.out, D3.out, RV3.out, RR3.out, G3.out⟩
  case round =>
    obtain ⟨k, hk, rfl, ho, hd, hv, hr, hg⟩ := hrel
    have O := Lib.hid ho; have D := Lib.hid hd; have RV := Lib.hid hv; have RR := Lib.hid hr; have GG := Lib.hid hg
    clear ho hd hv hr hg O3 D3 RV3 RR3 G3
    by_cases hlt : k < l.length
    · obtain ⟨i, hi64, hik⟩ := AT.out k hlt
      have hS := ST.out k hlt
      rw [hik, Int.toNat_natCast] at hS
      have hln := LN.out k
      generalize fillS (l.take k) (fun _ => 0) s1 = z at D RV hS hln
      obtain ⟨f, st⟩ := z
      simp only at D RV hS hln
      have NM := Lib.hid (num_all B 1073741823 st _ D.out hln (by omega))
      obtain ⟨hkk, q2, d2, hvv, hld, hli, _⟩ := own_liesI O.out
      simp only [Value.slice.injEq] at hvv
      obtain ⟨hq2, _, hd2⟩ := hvv
      subst hq2 hd2
      obtain ⟨b, o, rfl, _, hcl⟩ := hli.at (by omega)
      have hck := hcl k hlt
      rw [hik] at hck
      have hkI : (k : Int) < l.length := by omega
      have hle : (Cod.numS 1073741823 st).2.2 = 0 → ((Cod.numS 1073741823 st).1 : Int) ≤ 1073741823 := fun e => (Cod.numS_le e).1
      have hze : (Cod.numS 1073741823 st).2.2 ≠ 0 → (Cod.numS 1073741823 st).1 = 0 := fun e => Cod.numS_zero e
      have hnb : ((Cod.numS 1073741823 st).1 : Int) ≤ 1073741823 := by
        by_cases e : (Cod.numS 1073741823 st).2.2 = 0
        · exact hle e
        · rw [hze e]; omega
      generalize Cod.numS 1073741823 st = y at NM hS hnb
      obtain ⟨m, s2⟩ := y
      simp only at NM hS hnb
      have HS := Lib.hid hS
      have hiI : (i : Int) < 64 := by omega
      clear hkk hli hcl hS hle hze hln hik
      go_wp2_with fail
      refine NM.out.mono ?_
      rintro e w5 ⟨rfl, hr5, hg5⟩
      have O5 := Lib.hid (ownI_stays O.out hg5 (by omega))
      have RV5 := Lib.hid (RV.out.kept hg5 (fun e => by have e2 : gv = B := Option.some.inj e; omega))
      have RR5 := Lib.hid (RR.out.kept hg5 (fun e => by have e2 : gr = B := Option.some.inj e; omega))
      have G5 := Lib.hid (grown_trans GG.out hg5)
      have D5 := Lib.hid hr5
      have hz5 := G5.out.size
      clear hr5 hg5 NM O RV RR D GG hck
      have hfr := RV5.out.free i
      have hcc := RV5.out.cell i hi64
      have SG := grown_cell w5 gv i (.int .i64 ((m : Int) + 1))
      have O6 := Lib.hid (ownI_stays O5.out SG (by omega))
      have RV6 := Lib.hid (RV5.out.set i ((m : Int) + 1))
      have RR6 := Lib.hid (RR5.out.kept SG (fun e => by have e2 : gr = gv := Option.some.inj e; omega))
      have D6 := Lib.hid (D5.out.beside SG (by omega))
      have G6 := Lib.hid (grown_carry G5.out (grown_below SG hz5 (by omega)))
      clear SG O5 RR5 D5 RV5 G5
      go_wp2
      go_roundw
      case rel => exact ⟨k + 1, by omega, by go_num, O6.out, by rw [HS.out]; exact D6.out, by rw [HS.out]; exact RV6.out, RR6.out, G6.out⟩
      case measure => simp [intOf]; omega
    · obtain rfl : k = l.length := by omega
      have hkI : ¬ ((l.length : Int) < l.length) := by omega
      rw [← OS.out] at D
      have E := Lib.hid (err_any B OSv wr D.out)
      generalize fillS (l.take l.length) (fun _ => 0) s1 = z at RV OV OS
      obtain ⟨f, st⟩ := z
      simp only at RV OV OS
      by_cases he : OSv.2 = 0
      · have ov := OV.out
        rw [if_pos he] at ov
        subst ov
        rw [he] at E
        go_wp2_with fail
        refine E.out.mono ?_
        rintro e w' ⟨rfl, rfl⟩
        go_wp2_with (first | refine wpList_vload vecI rfl _ rfl gv rfl _ _ RV.out ?_ | refine wpList_vstore vecI rfl _ _ rfl gr rfl _ rfl _ _ RR.out ?_)
        intro w7 r7 g7 _
        have R7 := Lib.hid r7
        have D7 := Lib.hid (D.out.beside g7 (by omega))
        have hz7 := GG.out.size
        have G7 := Lib.hid (grown_carry GG.out (grown_below g7 hz7 (by omega)))
        clear r7 g7
        go_wp2
        exact vec_post vecI rfl rfl rfl R7.out ⟨rfl, D7.out, G7.out⟩
      · have ov := OV.out
        rw [if_neg he] at ov
        subst ov
        have he2 : ¬ ((OSv.2 : Nat) : Int) = 0 := by omega
        generalize ((OSv.2 : Nat) : Int) = ee at E he2
        go_wp2_with fail
        refine E.out.mono ?_
        rintro e w' ⟨rfl, rfl⟩
        go_wp2_with (first | refine wpList_vbuild (by rfl) _ rfl (fun _ => 0) (by simp only [List.map_toArray, List.map_nil]; exact built0 _) ?_ | refine wpList_vstore vecI rfl _ _ rfl gr rfl _ rfl _ _ RR.out ?_)
        intro w7 r7 g7 _
        have R7 := Lib.hid r7
        have D7 := Lib.hid (D.out.beside g7 (by omega))
        have hz7 := GG.out.size
        have G7 := Lib.hid (grown_carry GG.out (grown_below g7 hz7 (by omega)))
        clear r7 g7
        go_wp2
        exact vec_post vecI rfl rfl rfl R7.out ⟨rfl, D7.out, G7.out⟩
set_option maxHeartbeats 4000000 in
set_option maxRecDepth 100000 in
theorem refVread_is (B lo : Nat) (s : Cod.S) (w : World) (h : RRd w B lo s) (hl : s.1.length ≤ 140737488355328) :
    Calls Try.prog 34 #[.pointer (some ⟨B, 0, none⟩)] w (GotVR w B lo (outV s) (outS s)) := by
  have hBw := h.lt
  have H := Lib.hid h
  clear h
  obtain ⟨OVv, hOVv⟩ : ∃ x, x = outV s := ⟨_, rfl⟩
  obtain ⟨OSv, hOSv⟩ : ∃ x, x = outS s := ⟨_, rfl⟩
  rw [← hOVv, ← hOSv]
  go_enter Try.func34, Try.ntmps34
  go_wp2_with (refine wpList_valloc vecI zeroV rfl rfl ?_)
  intro gr w1 lr rr hb1
  have B1 := Lib.hid hb1; have RR1 := Lib.hid rr
  clear hb1 rr
  go_wp2_with (refine wpList_valloc vecI zeroV rfl rfl ?_)
  intro gv w2 lv rv hb2
  have hrv : gr < gv := Nat.lt_of_lt_of_le RR1.out.lt lv
  have B2 := Lib.hid (thenBelow B1.out hb2); have RR2 := Lib.hid (RR1.out.later hb2); have RV2 := Lib.hid rv
  have hlow := Nat.le_trans B1.out.size lv
  have H2 := Lib.hid (H.out.below B2.out)
  have hgv2 := rv.lt
  have hz2 := B2.out.size
  clear hb2 rv H B1 RR1
  have R := Lib.hid (refRising_all B lo 64 63 s w2 H2.out hl (by omega) (by omega))
  have hr1 := rdR_len s
  have AT : Hid (∀ k, k < (rdL s).length → ∃ i : Nat, i < 64 ∧ (rdL s).getD k 0 = (i : Int)) := rdL_at s
  have ST : Hid (∀ k, k < (rdL s).length → fillS ((rdL s).take (k + 1)) (fun _ => 0) (Cod.riseAll 64 63 s).2 = (vset (fillS ((rdL s).take k) (fun _ => 0) (Cod.riseAll 64 63 s).2).1 ((rdL s).getD k 0).toNat (((Cod.numS 1073741823 (fillS ((rdL s).take k) (fun _ => 0) (Cod.riseAll 64 63 s).2).2).1 : Int) + 1), (Cod.numS 1073741823 (fillS ((rdL s).take k) (fun _ => 0) (Cod.riseAll 64 63 s).2).2).2)) := fun k hk => fillS_step _ _ _ k hk
  have OS : Hid (OSv = (fillS ((rdL s).take (rdL s).length) (fun _ => 0) (Cod.riseAll 64 63 s).2).2) := by show OSv = _; rw [hOSv, List.take_length]; rfl
  have OV : Hid (OVv = if OSv.2 = 0 then (fillS ((rdL s).take (rdL s).length) (fun _ => 0) (Cod.riseAll 64 63 s).2).1 else fun _ => 0) := by show OVv = _; rw [hOVv, hOSv, List.take_length]; rfl
  have LN : Hid (∀ k, (fillS ((rdL s).take k) (fun _ => 0) (Cod.riseAll 64 63 s).2).2.1.length ≤ 140737488355328) := fun k => Nat.le_trans (fillS_len _ _ _) (Nat.le_trans hr1 hl)
  have L64 : Hid ((rdL s).length < 9223372036854775807) := by
    show (rdL s).length < _
    have h1 := riseS_lenL 63 (Cod.numS 64 s).1 (-1) [] (Cod.numS 64 s).2
    have h2 := numS_small (s := s) (many := 64) (by omega)
    have h3 : (rdL s).length ≤ [].length + (Cod.numS 64 s).1 := h1
    simp only [List.length_nil] at h3
    omega
  have eL : (Cod.riseAll 64 63 s).1.getD [] = rdL s := rfl
  clear hOVv hOSv
  unfold GotRiseR at R
  rw [eL] at R
  generalize rdL s = l at R AT ST OS OV LN L64
  generalize (Cod.riseAll 64 63 s).2 = s1 at R ST OS OV LN
  clear hr1 eL hl
  go_wp2_with fail
  refine R.out.mono ?_
  rintro e w3 ⟨v3, rfl, ho3, hr3, hg3⟩
  obtain ⟨hkk, q, d, rfl, _, _, _⟩ := own_liesI ho3
  clear hkk
  have O3 := Lib.hid ho3; have D3 := Lib.hid hr3
  have RR3 := Lib.hid (RR2.out.kept hg3 (fun e => by have e2 : gr = B := Option.some.inj e; omega))
  have RV3 := Lib.hid (RV2.out.kept hg3 (fun e => by have e2 : gv = B := Option.some.inj e; omega))
  have G3 := Lib.hid (grown_trans (grown_of_below B2.out (r := some B)) hg3)
  have hz3 := hg3.size
  clear ho3 hr3 hg3 R RR2 RV2 H2
  have hL := L64.out
  go_wp2
  go_loopw [9] (fun i wr => ∃ k : Nat, k ≤ l.length ∧ i = .int .i64 k ∧ wr.ownsRow w2.heap.size 3 1 (.slice q l.length d) l.length (ints l) ∧ RRd wr B lo (fillS (l.take k) (fun _ => 0) s1).2 ∧ Row wr gv 25 (fillS (l.take k) (fun _ => 0) s1).1 ∧ Row wr gr 25 (fun _ => 0) ∧ w.grownBy wr (some B)) (fun i _ => l.length - (intOf i).toNat)
  case atStart => exact ⟨0, by omega, rfl, O3.out, D3.out, RV3.out, RR3.out, G3.out⟩
  case round =>
    obtain ⟨k, hk, rfl, ho, hd, hv, hr, hg⟩ := hrel
    have O := Lib.hid ho; have D := Lib.hid hd; have RV := Lib.hid hv; have RR := Lib.hid hr; have GG := Lib.hid hg
    clear ho hd hv hr hg O3 D3 RV3 RR3 G3
    by_cases hlt : k < l.length
    · obtain ⟨i, hi64, hik⟩ := AT.out k hlt
      have hS := ST.out k hlt
      rw [hik, Int.toNat_natCast] at hS
      have hln := LN.out k
      generalize fillS (l.take k) (fun _ => 0) s1 = z at D RV hS hln
      obtain ⟨f, st⟩ := z
      simp only at D RV hS hln
      have NM := Lib.hid (refNum_all B lo 1073741823 st _ D.out hln (by omega))
      obtain ⟨hkk, q2, d2, hvv, hld, hli, _⟩ := own_liesI O.out
      simp only [Value.slice.injEq] at hvv
      obtain ⟨hq2, _, hd2⟩ := hvv
      subst hq2 hd2
      obtain ⟨b, o, rfl, _, hcl⟩ := hli.at (by omega)
      have hck := hcl k hlt
      rw [hik] at hck
      have hkI : (k : Int) < l.length := by omega
      have hle : (Cod.numS 1073741823 st).2.2 = 0 → ((Cod.numS 1073741823 st).1 : Int) ≤ 1073741823 := fun e => (Cod.numS_le e).1
      have hze : (Cod.numS 1073741823 st).2.2 ≠ 0 → (Cod.numS 1073741823 st).1 = 0 := fun e => Cod.numS_zero e
      have hnb : ((Cod.numS 1073741823 st).1 : Int) ≤ 1073741823 := by
        by_cases e : (Cod.numS 1073741823 st).2.2 = 0
        · exact hle e
        · rw [hze e]; omega
      generalize Cod.numS 1073741823 st = y at NM hS hnb
      obtain ⟨m, s2⟩ := y
      simp only at NM hS hnb
      have HS := Lib.hid hS
      have hiI : (i : Int) < 64 := by omega
      clear hkk hli hcl hS hle hze hln hik
      go_wp2_with fail
      refine NM.out.mono ?_
      rintro e w5 ⟨rfl, hr5, hg5⟩
      have O5 := Lib.hid (ownI_stays O.out hg5 (by omega))
      have RV5 := Lib.hid (RV.out.kept hg5 (fun e => by have e2 : gv = B := Option.some.inj e; omega))
      have RR5 := Lib.hid (RR.out.kept hg5 (fun e => by have e2 : gr = B := Option.some.inj e; omega))
      have G5 := Lib.hid (grown_trans GG.out hg5)
      have D5 := Lib.hid hr5
      have hz5 := G5.out.size
      clear hr5 hg5 NM O RV RR D GG hck
      have hfr := RV5.out.free i
      have hcc := RV5.out.cell i hi64
      have SG := grown_cell w5 gv i (.int .i64 ((m : Int) + 1))
      have O6 := Lib.hid (ownI_stays O5.out SG (by omega))
      have RV6 := Lib.hid (RV5.out.set i ((m : Int) + 1))
      have RR6 := Lib.hid (RR5.out.kept SG (fun e => by have e2 : gr = gv := Option.some.inj e; omega))
      have D6 := Lib.hid (D5.out.beside SG (by omega))
      have G6 := Lib.hid (grown_carry G5.out (grown_below SG hz5 (by omega)))
      clear SG O5 RR5 D5 RV5 G5
      have e1 : (1 : Int) + (m : Int) = (m : Int) + 1 := by omega
      go_wp2
      go_roundw
      case rel => exact ⟨k + 1, by omega, by go_num, O6.out, by rw [HS.out]; exact D6.out, by rw [HS.out]; exact RV6.out, RR6.out, G6.out⟩
      case measure => simp [intOf]; omega
    · obtain rfl : k = l.length := by omega
      have hkI : ¬ ((l.length : Int) < l.length) := by omega
      rw [← OS.out] at D
      have E := D.out.err
      generalize fillS (l.take l.length) (fun _ => 0) s1 = z at RV OV OS
      obtain ⟨f, st⟩ := z
      simp only at RV OV OS
      by_cases he : OSv.2 = 0
      · have ov := OV.out
        rw [if_pos he] at ov
        subst ov
        rw [he] at E
        go_wp2_with (first | refine wpList_vload vecI rfl _ rfl gv rfl _ _ RV.out ?_ | refine wpList_vstore vecI rfl _ _ rfl gr rfl _ rfl _ _ RR.out ?_)
        intro w7 r7 g7 _
        have R7 := Lib.hid r7
        have D7 := Lib.hid (D.out.beside g7 (by omega))
        have hz7 := GG.out.size
        have G7 := Lib.hid (grown_carry GG.out (grown_below g7 hz7 (by omega)))
        clear r7 g7
        go_wp2
        exact vec_post vecI rfl rfl rfl R7.out ⟨rfl, D7.out, G7.out⟩
      · have ov := OV.out
        rw [if_neg he] at ov
        subst ov
        have he2 : ¬ ((OSv.2 : Nat) : Int) = 0 := by omega
        generalize ((OSv.2 : Nat) : Int) = ee at E he2
        go_wp2_with (first | refine wpList_vbuild (by rfl) _ rfl (fun _ => 0) (by simp only [List.map_toArray, List.map_nil]; exact built0 _) ?_ | refine wpList_vstore vecI rfl _ _ rfl gr rfl _ rfl _ _ RR.out ?_)
        intro w7 r7 g7 _
        have R7 := Lib.hid r7
        have D7 := Lib.hid (D.out.beside g7 (by omega))
        have hz7 := GG.out.size
        have G7 := Lib.hid (grown_carry GG.out (grown_below g7 hz7 (by omega)))
        clear r7 g7
        go_wp2
        exact vec_post vecI rfl rfl rfl R7.out ⟨rfl, D7.out, G7.out⟩
end Go.Proofs.Ytkkepfbckpmbhaa
