/- The walk of PastAll. -/
import Derived.Test.YtbdedemckmoidaaPastSince
import Derived.Test.YtbdedemckmoidaaPastAllP
import Derived.Test.YtbdedemckmoidaaPastAwake
import Derived.Test.YtbdedemckmoidaaVecRows
namespace Go.Proofs.Ytbdedemckmoidaa
open Go Go.RowKit
set_option linter.unusedVariables false

/-- what is known behind j events: how many are there, which, and that each is there or behind the floor -/
structure AInv (L : List EvP) (j : Nat) (K : List Ev) (F : Nat → Int) : Prop where
  len : K.length ≤ j
  mem : ∀ e ∈ K, e ∈ evs L
  know : ∀ d ∈ (evs (L.take j)).map Ev.dot, vldB d.1 d.2 = true → Knows K F d
theorem ainv_add {L : List EvP} {j : Nat} {K : List Ev} {F : Nat → Int} (h : AInv L j K F) (hj : j < L.length) : AInv L (j + 1) (behindOf K [L[j].e]) F := by
  have e : behindOf K [L[j].e] = addEv K L[j].e := rfl
  rw [e]
  refine ⟨Nat.le_trans (addEv_len _ _) (by have := h.len; omega), fun x hx => ?_, fun d hd hv => ?_⟩
  · rcases addEv_mem hx with hx | rfl
    · exact h.mem x hx
    · exact List.mem_map.2 ⟨L[j], List.getElem_mem hj, rfl⟩
  · rw [dots_take L j hj] at hd
    rcases List.mem_append.1 hd with hd | hd
    · exact knows_add _ (h.know d hd hv)
    · obtain rfl := List.mem_singleton.1 hd
      exact knows_new _ _ _
theorem ainv_run {σ : Type} (goes : σ → Ev → Bool) (next : σ → Ev → σ) (st : σ) {L : List EvP} {j : Nat} {K : List Ev} {F : Nat → Int} (h : AInv L j K F) : AInv L j (wRun goes next st F K).2.1 (wRun goes next st F K).2.2 := by
  refine ⟨?_, fun x hx => ?_, fun d hd hv => knows_run goes next st hv (h.know d hd hv)⟩
  · have h1 := wRun_len goes next K (st, [], F)
    have h2 := h.len
    change (wRun goes next st F K).2.1.length ≤ 0 + K.length at h1
    omega
  · rcases wRun_mem goes next K (st, [], F) x hx with hx | hx
    · simp at hx
    · exact h.mem x hx
theorem ainv_gone {L : List EvP} {j : Nat} {K : List EvP} {F : Nat → Int} (h : AInv L j (evs K) F) (hg : ∀ x ∈ L, x.e.gone.length ≤ 1000) : ∀ x ∈ K, x.e.gone.length ≤ 1000 := fun x hx => by
  obtain ⟨y, hy, e⟩ := List.mem_map.1 (h.mem x.e (List.mem_map.2 ⟨x, hx, rfl⟩))
  rw [← e]; exact hg y hy
theorem ainv_len {L : List EvP} {j : Nat} {K : List EvP} {F : Nat → Int} (h : AInv L j (evs K) F) : K.length ≤ j := by
  have := h.len; simpa [evs] using this
theorem OwnE.set {w w' : World} {B g : Nat} {v v' : Value} {f : Nat → Int} {K : List EvP} (h : OwnE w B v K) (hP : Px w g v' f) (hg : w.grownBy w' (some g)) : OwnE w' B v K :=
  ⟨own_type h.row hP (by decide) hg, fun x hx => own_type (h.gone x hx) hP (by decide) hg⟩
set_option maxHeartbeats 20000000 in
set_option maxRecDepth 1000000 in
theorem pastAll_walk (p : Option Addr) (c : Nat) (L : List EvP) (most : Int) (v u : Nat → Int) (W : World) (h : EvsAt W p L) (ho : ∀ a, p = some a → ∃ b o, a = ⟨b, o, none⟩) (hlc : L.length ≤ c) (hm : (Lit.int .i64 most).wf = true) :
    Calls Try.prog 6 #[.slice p L.length c, .int .i64 most, .agg (vf v), .agg (vf u)] W (Yes W) := by
  have hmr := wide_wf hm
  have EV := Lib.hid h
  clear h ho hm
  go_enter Try.func6, Try.ntmps6
  go_wp2_with (refine wpList_vbox vecI rfl _ rfl v rfl ?_)
  intro g6 w1 l1 rv hb1
  have B1 := Lib.hid hb1; have V1 : Hid (Row w1 g6 24 v) := Lib.hid rv
  clear rv hb1
  go_wp2_with (refine wpList_vbox vecI rfl _ rfl u rfl ?_)
  intro g7 w2 l2 ru hb2
  have B2 := Lib.hid (thenBelow B1.out hb2); have U2 : Hid (Row w2 g7 24 u) := Lib.hid ru
  have V2 : Hid (Row w2 g6 24 v) := Lib.hid (V1.out.later hb2)
  clear ru hb2 V1
  have b3 := below_alloc w2 (.cells #[.slice p L.length c] 22)
  have B3 := Lib.hid (thenBelow B2.out b3); have V3 : Hid (Row _ g6 24 v) := Lib.hid (V2.out.later b3); have U3 : Hid (Row _ g7 24 u) := Lib.hid (U2.out.later b3)
  have n3 := heap_alloc_new w2 (.cells #[.slice p L.length c] 22)
  have E3 := Lib.hid (EV.out.below B3.out)
  have FW : Hid (Calls Try.prog 7 #[.slice (some ⟨w2.heap.size, 0, none⟩) 1 1] (w2.alloc (.cells #[.slice p L.length c] 22)) (FewR (w2.alloc (.cells #[.slice p L.length c] 22)) [⟨p, c, L⟩])) :=
    Lib.hid (fewE_is w2.heap.size 1 [⟨p, c, L⟩] _ (fun i hi => by
      obtain rfl : i = 0 := by simpa using hi
      exact ⟨(cell_of_row _ _ 0 _ _ _ n3).trans rfl, E3.out⟩) (by simp))
  clear b3 n3
  go_wp2_with fail
  generalize w2.alloc (.cells #[.slice p L.length c] 22) = w3 at V3 U3 B3 E3 FW ⊢
  refine FW.out.mono ?_
  rintro e w4 ⟨fw, rfl, hfw, hb4⟩
  have V4 : Hid (Row w4 g6 24 v) := Lib.hid (V3.out.later hb4); have U4 : Hid (Row w4 g7 24 u) := Lib.hid (U3.out.later hb4)
  have B4 := Lib.hid (thenBelow B3.out hb4)
  clear FW hb4 V3 U3 E3 V2 U2
  cases fw with
  | false =>
    have AW := Lib.hid (awake13 w4)
    clear hfw
    go_wp2_with fail
    refine AW.out.mono ?_
    rintro e w9 ⟨rfl, hb9⟩
    have B9 := Lib.hid (thenBelow B4.out hb9)
    clear hb9
    go_wp2
    go_ret
    exact ⟨rfl, B9.out⟩
  | true =>
    have hsm := hfw rfl 0 (by simp)
    have h80 : L.length ≤ 80 := hsm.1
    have HG : Hid (∀ x ∈ L, x.e.gone.length ≤ 1000) := Lib.hid fun x hx => Nat.le_trans (hsm.2 x hx) (by decide)
    clear hfw hsm
    go_wp2_with (first | refine wpList_pbuild (by rfl) _ rfl (pcs (.slice none 0 0) fun _ => 0) (by kernel_rfl) ?_ | refine wpList_galloc _ zeroP rfl rfl ?_)
    intro g9 w5 l9 h9 hb5
    have B5 := Lib.hid (thenBelow B4.out hb5)
    have V5 : Hid (Row w5 g6 24 v) := Lib.hid (V4.out.later hb5); have U5 : Hid (Row w5 g7 24 u) := Lib.hid (U4.out.later hb5)
    have h69 : g6 < g9 := Nat.lt_of_lt_of_le V4.out.lt l9
    have h79 : g7 < g9 := Nat.lt_of_lt_of_le U4.out.lt l9
    have hW9 : W.heap.size ≤ g9 := Nat.le_trans B4.out.size l9
    clear hb5 V4 U4
    go_wp2_with (refine wpList_gstore rfl _ _ rfl g9 rfl (pcs (.slice none 0 0) fun _ => 0) rfl _ _ h9 (sizeP _ _) (by first | rfl | rw [pcs_size]) (pcs_oneV (fun _ => 0) ⟨_, _, _, rfl⟩) ?_)
    intro w6 p6 g6'
    have P6 : Hid (Px w6 g9 (.slice none 0 0) fun _ => 0) := Lib.hid p6
    have V6 : Hid (Row w6 g6 24 v) := Lib.hid (V5.out.kept g6' (by simp; omega)); have U6 : Hid (Row w6 g7 24 u) := Lib.hid (U5.out.kept g6' (by simp; omega))
    have B6 := Lib.hid (B5.out.trans (grown_below g6' B5.out.size hW9))
    have h9l := P6.out.lt
    clear h9 p6 g6' V5 U5
    go_wp2_with fail
    go_loopw [28] (fun i wr => ∃ (j : Nat) (q : Option Addr) (cq : Nat) (K : List EvP) (F : Nat → Int), j ≤ L.length ∧ i = .int .i64 j ∧ Px wr g9 (.slice q K.length cq) F ∧ OwnE wr w6.heap.size (.slice q K.length cq) K ∧ AInv L j (evs K) F ∧ Two g9 g9 w6 wr) (fun i _ => L.length - (intOf i).toNat)
    case atStart => exact ⟨0, none, 0, [], fun _ => 0, Nat.zero_le _, rfl, P6.out, ⟨⟨rfl, .inl ⟨rfl, rfl⟩⟩, fun x hx => by simp at hx⟩, ⟨Nat.le_refl _, fun e he => by simp [evs] at he, fun d hd => by simp [evs] at hd⟩, Two.refl _ _ _⟩
    case round =>
      obtain ⟨j, q, cq, K, F, hj, rfl, hpx, hK, hinv, htwo⟩ := hrel
      have BWr : Hid (Below W.heap.size W wr) := Lib.hid ⟨htwo.os.trans B6.out.os, htwo.tape.trans B6.out.tape, htwo.output.trans B6.out.output, Nat.le_trans B6.out.size htwo.size, fun k hk => (htwo.block k (Nat.lt_of_lt_of_le hk B6.out.size) (by omega) (by omega)).trans (B6.out.block k hk)⟩
      have PX := Lib.hid hpx; have OK := Lib.hid hK; have AI := Lib.hid hinv; have TW := Lib.hid htwo
      have h9r : g9 < wr.heap.size := hpx.lt
      clear hpx hK hinv htwo
      by_cases hjl : j < L.length
      · have hjl' : (j : Int) < L.length := by omega
        have EVr := EV.out.below BWr.out
        obtain ⟨b, o, rfl, hlt, hr⟩ := EVr.at hjl
        obtain ⟨c0, c1, c2, c3, c4, c5, c6, c7⟩ := ev_cells hr
        have AN := Lib.hid (ainv_add AI.out hjl)
        have bb : Below wr.heap.size wr (wr.alloc (.cells L[j].cells.toArray 31)) := below_alloc _ _
        have Pb := Lib.hid (PX.out.later bb); have Ob := Lib.hid (OK.out.later bb)
        have hxk := (EVr.ok L[j] (List.getElem_mem hjl)).below bb
        obtain ⟨_, _, e1, _, hEb, hob⟩ := Ob.out.at
        injection e1 with e1 _ e2
        subst e1; subst e2
        have AD := Lib.hid (add_is _ cq K F L[j] _ hEb hob (Nat.le_trans (ainv_len AI.out) (by omega)) (ainv_gone AI.out HG.out) hxk (HG.out _ (List.getElem_mem hjl)))
        have TWb := Lib.hid (TW.out.below bb); have Bb := Lib.hid bb
        clear hr hlt EVr bb hEb hob hxk
        obtain ⟨y, hy⟩ : ∃ y, L[j] = y := ⟨_, rfl⟩
        rw [hy] at c0 c1 c2 c3 c4 c5 c6 c7 AN AD Pb Ob TWb Bb
        clear hy
        obtain ⟨⟨r, n, t, kd, d, fl, tx, gn⟩, gp, gc⟩ := y
        simp only [EvP.cells] at c0 c1 c2 c3 c4 c5 c6 c7 AD Pb Ob TWb Bb
        go_wp2_with (refine wpList_gload rfl _ rfl g9 0 rfl (pcs (.slice _ K.length cq) F).toList Pb.out.whole _ Try.underlying26 rfl (sizePl _ F) ?_)
        refine AD.out.mono ?_
        rintro e w7 ⟨vA, KA, rfl, hA, heA, hb7⟩
        obtain ⟨qA, cA, rfl⟩ := own_slice hA.row
        have T7 := Lib.hid (TWb.out.below hb7); have P7 := Lib.hid (Pb.out.later hb7)
        have h6r : w6.heap.size ≤ wr.heap.size := TW.out.size
        have OA : Hid (OwnE w7 w6.heap.size (.slice qA KA.length cA) KA) := Lib.hid (hA.base (Nat.le_trans h6r Bb.out.size))
        have AA : Hid (AInv L (j + 1) (evs KA) F) := Lib.hid (by rw [heA]; exact AN.out)
        clear AD hA heA hb7 Pb Ob TWb Bb c0 c1 c2 c3 c4 c5 c6 c7 AN AI OK
        go_wp2_with (refine wpList_gstore rfl _ _ rfl g9 rfl (pcs (.slice qA KA.length cA) F) rfl _ _ P7.out (sizeP _ _) (by rw [pcs_size, pcs_size]) (pcs_oneV F ⟨_, _, _, rfl⟩) ?_)
        intro w8 p8 g8
        have P8 : Hid (Px w8 g9 (.slice qA KA.length cA) F) := Lib.hid p8
        have O8 := Lib.hid (OA.out.set P7.out g8); have T8 := Lib.hid (T7.out.step g8 (fun k hk => .inl (Option.some.inj hk).symm))
        clear p8 g8 P7 OA T7 PX
        by_cases hr3 : j % 3 = 2
        · have hq3 : ((j : Int) % 3 = 2) := by omega
          obtain ⟨_, _, e1, _, hE8, ho8⟩ := O8.out.at
          injection e1 with e1 _ e2
          subst e1; subst e2
          have TR := Lib.hid (trim_is _ cA KA F most w8 hE8 ho8 (Nat.le_trans (ainv_len AA.out) (by omega)) (ainv_gone AA.out HG.out) hmr)
          clear hE8 ho8
          go_wp2_with (refine wpList_gload rfl _ rfl g9 0 rfl (pcs (.slice _ KA.length cA) F).toList P8.out.whole _ Try.underlying26 rfl (sizePl _ F) ?_)
          refine TR.out.mono ?_
          rintro e wa ⟨vT, KT, rfl, hT, heT, hba⟩
          obtain ⟨qT, cT, rfl⟩ := own_slice hT.row
          have h68 : w6.heap.size ≤ w8.heap.size := T8.out.size
          have Pa := Lib.hid (P8.out.later hba); have Ta := Lib.hid (T8.out.below hba); have OT := Lib.hid (hT.base h68)
          have AT : AInv L (j + 1) (evs KT) (trimOf (evs KA) F most).2.2 := by rw [heT]; exact ainv_run trimGoes trimNext _ AA.out
          obtain ⟨fz, hfz⟩ : ∃ fz, (trimOf (evs KA) F most).2.2 = fz := ⟨_, rfl⟩
          rw [hfz] at AT ⊢
          have AT' := Lib.hid AT
          clear TR hT heT hba AT hfz P8 O8 T8 AA
          go_wp2_with (refine wpList_gstore rfl _ _ rfl g9 rfl (pcs (.slice qT KT.length cT) fz) rfl _ _ Pa.out (sizeP _ _) (by rw [pcs_size, pcs_size]) (pcs_oneV fz ⟨_, _, _, rfl⟩) ?_)
          intro wc pc gc'
          have Pc : Hid (Px wc g9 (.slice qT KT.length cT) fz) := Lib.hid pc
          have Oc := Lib.hid (OT.out.set Pa.out gc'); have Tc := Lib.hid (Ta.out.step gc' (fun k hk => .inl (Option.some.inj hk).symm))
          clear pc gc' Pa OT Ta
          go_wp2
          go_roundw
          case rel => exact ⟨j + 1, qT, cT, KT, fz, by omega, by go_num, Pc.out, Oc.out, AT'.out, Tc.out⟩
          case measure => simp [intOf]; omega
        · have hq3 : ¬ ((j : Int) % 3 = 2) := by omega
          go_wp2
          go_roundw
          case rel => exact ⟨j + 1, qA, cA, KA, F, by omega, by go_num, P8.out, O8.out, AA.out, T8.out⟩
          case measure => simp [intOf]; omega
      · obtain rfl : j = L.length := by omega
        have hjl' : ¬ ((L.length : Nat) : Int) < L.length := by omega
        obtain ⟨_, _, e1, _, hE, ho⟩ := OK.out.at
        injection e1 with e1 _ e2
        subst e1; subst e2
        have VR : Hid (Row wr g6 24 v) := Lib.hid ((TW.out.block g6 V6.out.lt (by omega) (by omega)).trans V6.out)
        have UR : Hid (Row wr g7 24 u) := Lib.hid ((TW.out.block g7 U6.out.lt (by omega) (by omega)).trans U6.out)
        have CO := Lib.hid (coll_is _ cq K F v wr hE ho (Nat.le_trans (ainv_len AI.out) (by omega)) (ainv_gone AI.out HG.out))
        clear hE ho
        go_wp2_with (first | refine wpList_gload rfl _ rfl g9 0 rfl (pcs (.slice _ K.length cq) F).toList PX.out.whole _ Try.underlying26 rfl (sizePl _ F) ?_ | refine wpList_gload rfl _ rfl g6 0 rfl (vf v).toList VR.out.range _ Try.underlying24 rfl (sizeVcl v) ?_)
        refine CO.out.mono ?_
        rintro e wa ⟨vC, KC, rfl, hC, heC, hba⟩
        obtain ⟨qC, cC, rfl⟩ := own_slice hC.row
        have h6r : w6.heap.size ≤ wr.heap.size := TW.out.size
        have Pa := Lib.hid (PX.out.later hba); have Ua : Hid (Row wa g7 24 u) := Lib.hid (UR.out.later hba); have OC := Lib.hid (hC.base h6r)
        have Ba := Lib.hid (thenBelow BWr.out hba)
        have AC : AInv L L.length (evs KC) (collOf (evs K) F v).2.2 := by rw [heC]; exact ainv_run (collGoes v) collNext () AI.out
        obtain ⟨fz, hfz⟩ : ∃ fz, (collOf (evs K) F v).2.2 = fz := ⟨_, rfl⟩
        rw [hfz] at AC ⊢
        have AC' := Lib.hid AC
        clear CO hC heC hba AC hfz PX OK AI TW VR UR BWr V6 U6 P6
        go_wp2_with (refine wpList_gstore rfl _ _ rfl g9 rfl (pcs (.slice qC KC.length cC) fz) rfl _ _ Pa.out (sizeP _ _) (by rw [pcs_size, pcs_size]) (pcs_oneV fz ⟨_, _, _, rfl⟩) ?_)
        intro wb pb gb
        have Pb : Hid (Px wb g9 (.slice qC KC.length cC) fz) := Lib.hid pb
        have Ob := Lib.hid (OC.out.set Pa.out gb); have Ub : Hid (Row wb g7 24 u) := Lib.hid (Ua.out.kept gb (by simp; omega))
        have Bb := Lib.hid (Ba.out.trans (grown_below gb Ba.out.size hW9))
        have JN := Lib.hid (refJoin_is u fz wb)
        clear pb gb Pa OC Ua
        go_wp2_with (first | refine wpList_gload rfl _ rfl g7 0 rfl (vf u).toList Ub.out.range _ Try.underlying24 rfl (sizeVcl u) ?_ | refine wpList_gload rfl _ rfl g9 1 rfl (vf fz).toList Pb.out.floor _ Try.underlying24 rfl (sizeVcl fz) ?_)
        refine JN.out.mono ?_
        rintro e wc ⟨rfl, hbc⟩
        have hle : Hid (∀ i, fz i ≤ (fun i => max (u i) (fz i)) i) := Lib.hid fun i => by simp only; omega
        obtain ⟨who, hwho⟩ : ∃ who, (fun i => max (u i) (fz i)) = who := ⟨_, rfl⟩
        rw [hwho] at hle ⊢
        have Pc := Lib.hid (Pb.out.later hbc); have Oc := Lib.hid (Ob.out.later hbc); have Bc := Lib.hid (thenBelow Bb.out hbc)
        clear JN hbc hwho Pb Ob Ub
        go_wp2_with (refine wpList_valloc vecI zeroV rfl rfl ?_)
        intro g12 wd ld rd hbd
        have Pd := Lib.hid (Pc.out.later hbd); have Od := Lib.hid (Oc.out.later hbd); have Bd := Lib.hid (thenBelow Bc.out hbd)
        have h912 : g9 < g12 := Nat.lt_of_lt_of_le Pc.out.lt ld
        have hW12 : W.heap.size ≤ g12 := by omega
        clear hbd Pc Oc
        go_wp2_with (refine wpList_vstore vecI rfl _ _ rfl g12 rfl _ rfl _ _ rd ?_)
        intro we re ge _
        have Pe := Lib.hid (Pd.out.kept ge (by simp; omega))
        have Oe : Hid (OwnE we w6.heap.size (.slice qC KC.length cC) KC) := Lib.hid ⟨own_type Od.out.row rd (by decide) ge, fun x hx => own_type (Od.out.gone x hx) rd (by decide) ge⟩
        have Re : Hid (Row we g12 24 who) := Lib.hid re
        have Be := Lib.hid (Bd.out.trans (grown_below ge Bd.out.size hW12))
        clear re ge rd Pd Od
        obtain ⟨_, _, e1, _, hE, ho⟩ := Oe.out.at
        injection e1 with e1 _ e2
        subst e1; subst e2
        have SI := Lib.hid (since_is _ cC KC fz who we hE ho (Nat.le_trans (ainv_len AC'.out) (by omega)) (ainv_gone AC'.out HG.out) ((vle_iff _ _).2 fun i _ => hle.out i))
        clear hE ho
        go_wp2_with (first | refine wpList_gload rfl _ rfl g9 0 rfl (pcs (.slice _ KC.length cC) fz).toList Pe.out.whole _ Try.underlying26 rfl (sizePl _ fz) ?_ | refine wpList_gload rfl _ rfl g12 0 rfl (vf who).toList Re.out.range _ Try.underlying24 rfl (sizeVcl who) ?_)
        refine SI.out.mono ?_
        rintro e wf ⟨qS, cS, KS, rfl, hcS, hES, hOS, heS, hbf⟩
        have Bf := Lib.hid (thenBelow Be.out hbf); have ES := Lib.hid hES; have Rf : Hid (Row wf g12 24 who) := Lib.hid (Re.out.later hbf)
        have hKS : KS.length ≤ 400 := by
          have h1 := congrArg List.length heS
          have h2 : ((evs KC).filter fun e => !e.has who).length ≤ (evs KC).length := List.length_filter_le _ _
          have h3 := AC'.out.len
          have h4 : (evs KS).length = KS.length := by simp [evs]
          omega
        have TELL : Hid (∀ d ∈ (evs L).map Ev.dot, vldB d.1 d.2 = true → hasB who d.1 d.2 = false → d ∈ (evs KS).map Ev.dot) := Lib.hid fun d hd hv hn => by
          rw [heS]
          exact knows_told (AC'.out.know d (by rw [List.take_length]; exact hd) hv) hle.out hn
        have Ef := Lib.hid (EV.out.below Bf.out)
        clear SI hES hOS heS hbf Pe Oe Re AC' hle
        go_wp2_with fail
        go_loopw [60] (fun i wr => ∃ j : Nat, j ≤ L.length ∧ i = .int .i64 j ∧ Below wf.heap.size wf wr) (fun i _ => L.length - (intOf i).toNat)
        case atStart => exact ⟨0, Nat.zero_le _, rfl, Below.refl _ _⟩
        case round =>
          obtain ⟨j, hj, rfl, hb⟩ := hrel
          have BI := Lib.hid hb
          by_cases hjl : j < L.length
          · have hjl' : (j : Int) < L.length := by omega
            obtain ⟨b, o, rfl, hlt, hr⟩ := (Ef.out.below hb).at hjl
            obtain ⟨c0, c1, c2, c3, c4, c5, c6, c7⟩ := ev_cells hr
            have TJ := Lib.hid (TELL.out L[j].e.dot (List.mem_map.2 ⟨L[j].e, List.mem_map.2 ⟨L[j], List.getElem_mem hjl, rfl⟩, rfl⟩))
            have n6 := heap_alloc_new wr (.cells L[j].cells.toArray 31)
            have b6 := below_alloc wr (.cells L[j].cells.toArray 31)
            have N6 := Lib.hid n6; have B6' := Lib.hid (thenBelow hb b6)
            clear hb hr hlt n6 b6
            obtain ⟨y, hy⟩ : ∃ y, L[j] = y := ⟨_, rfl⟩
            rw [hy] at c0 c1 c2 c3 c4 c5 c6 c7 TJ N6 B6'
            clear hy
            obtain ⟨⟨r, n, t, kd, d, fl, tx, gn⟩, gp, gc⟩ := y
            simp only [EvP.cells] at c0 c1 c2 c3 c4 c5 c6 c7 N6 B6'
            have VA := Lib.hid (refValid_is r n (wr.alloc (.cells #[.int .i64 r, .int .i64 n, .int .i64 t, .int .i64 kd, .string d, .int .i64 fl, .string tx, .slice gp gn.length gc] 31)))
            go_wp2_with fail
            generalize wr.alloc (.cells #[.int .i64 r, .int .i64 n, .int .i64 t, .int .i64 kd, .string d, .int .i64 fl, .string tx, .slice gp gn.length gc] 31) = w8 at N6 B6' VA ⊢
            refine VA.out.mono ?_
            rintro e w9 ⟨rfl, hb9⟩
            obtain ⟨X, hX⟩ : ∃ X, wr.heap.size = X := ⟨_, rfl⟩
            rw [hX] at N6 ⊢
            have B9 := Lib.hid (thenBelow B6'.out hb9)
            have N9 := Lib.hid ((hb9.block X (Array.getElem?_eq_some_iff.1 N6.out).1).trans N6.out)
            have d0 := (cell_of_row w9 X 0 _ _ _ N9.out).trans (show _ = some (Value.int .i64 r) from rfl)
            have d1 := (cell_of_row w9 X 1 _ _ _ N9.out).trans (show _ = some (Value.int .i64 n) from rfl)
            have R9 : Hid (Row w9 g12 24 who) := Lib.hid (Rf.out.later B9.out)
            clear VA hb9 N6 B6' hX c0 c1 c2 c3 c4 c5 c6 c7
            cases hv : vldB r n with
            | false =>
              clear hv
              go_wp2
              go_roundw
              case rel => exact ⟨j + 1, by omega, by go_num, B9.out⟩
              case measure => simp [intOf]; omega
            | true =>
              have HA := Lib.hid (refHas_is who r n w9)
              go_wp2_with (first | refine wpList_gload rfl _ rfl g12 0 rfl (vf who).toList R9.out.range _ Try.underlying24 rfl (sizeVcl who) ?_ | refine wpList_gloadG (by rfl) _ rfl g12 0 rfl (vf who).toList R9.out.range _ Try.underlying24 rfl (sizeVcl who) ?_)
              refine HA.out.mono ?_
              rintro e wa ⟨rfl, hba⟩
              have Ba' := Lib.hid (thenBelow B9.out hba)
              have Na := Lib.hid ((hba.block X (Array.getElem?_eq_some_iff.1 N9.out).1).trans N9.out)
              clear HA hba d0 d1 N9 R9
              cases hh : hasB who r n with
              | true =>
                clear hh
                go_wp2
                go_roundw
                case rel => exact ⟨j + 1, by omega, by go_num, Ba'.out⟩
                case measure => simp [intOf]; omega
              | false =>
                have TD : Hid ((r, n) ∈ (evs KS).map Ev.dot) := Lib.hid (TJ.out hv hh)
                have hXa : X < wa.heap.size := (Array.getElem?_eq_some_iff.1 Na.out).1
                clear hh hv TJ
                go_wp2_with fail
                go_loopw [17, 76] (fun th i wi => ∃ k : Nat, k ≤ KS.length ∧ th = .bool (decide ((r, n) ∈ (evs (KS.take k)).map Ev.dot)) ∧ i = .int .i64 k ∧ Below wa.heap.size wa wi) (fun _ i _ => KS.length - (intOf i).toNat)
                case atStart => exact ⟨0, Nat.zero_le _, by simp [evs], rfl, Below.refl _ _⟩
                case round =>
                  obtain ⟨k, hk, rfl, rfl, hb⟩ := hrel
                  have BK := Lib.hid hb
                  by_cases hkl : k < KS.length
                  · have hkl' : (k : Int) < KS.length := by omega
                    obtain ⟨b2, o2, rfl, hlt, hr⟩ := ((ES.out.below Ba'.out).below hb).at hkl
                    obtain ⟨c0, c1, c2, c3, c4, c5, c6, c7⟩ := ev_cells hr
                    have DT := Lib.hid (dots_take KS k hkl)
                    have bX := below_alloc wr (.cells KS[k].cells.toArray 31)
                    have hXw := (hb.block X hXa).trans Na.out
                    have hX2 := Lib.hid ((bX.block X (Array.getElem?_eq_some_iff.1 hXw).1).trans hXw)
                    have BB2 := Lib.hid (thenBelow hb bX)
                    clear hb hr hlt hXw bX
                    obtain ⟨y, hy⟩ : ∃ y, KS[k] = y := ⟨_, rfl⟩
                    rw [hy] at c0 c1 c2 c3 c4 c5 c6 c7 DT hX2 BB2
                    clear hy
                    obtain ⟨⟨r2, n2, t2, kd2, d2, fl2, tx2, gn2⟩, gp2, gc2⟩ := y
                    simp only [EvP.cells] at c0 c1 c2 c3 c4 c5 c6 c7 hX2 BB2
                    have e0 := (cell_of_row _ X 0 _ _ _ hX2.out).trans (show _ = some (Value.int .i64 r) from rfl)
                    have e1 := (cell_of_row _ X 1 _ _ _ hX2.out).trans (show _ = some (Value.int .i64 n) from rfl)
                    have hq1 : ∀ w : World, (Op.equalIn 10000 28 (.agg #[.int .i64 r2, .int .i64 n2]) (.agg #[.int .i64 r, .int .i64 n])).run Try.prog w = .ok (eqDt (r2, n2) (r, n)) w := fun w => runEqDt (r2, n2) (r, n) w
                    have hq2 : ∀ w : World, (binOp .eql 28 (.agg #[.int .i64 r2, .int .i64 n2]) (.agg #[.int .i64 r, .int .i64 n])).run Try.prog w = .ok (.bool (eqDt (r2, n2) (r, n))) w := fun w => eqlDt (r2, n2) (r, n) w
                    obtain ⟨th, hth⟩ : ∃ th, decide ((r, n) ∈ (evs (KS.take k)).map Ev.dot) = th := ⟨_, rfl⟩
                    rw [hth]
                    cases th with
                    | true =>
                      have DN : Hid (decide ((r, n) ∈ (evs (KS.take (k + 1))).map Ev.dot) = true) := Lib.hid (decide_eq_true (by rw [DT.out]; exact List.mem_append_left _ (of_decide_eq_true hth)))
                      clear hth DT hq1 hq2
                      go_wp2
                      go_roundw
                      case rel => exact ⟨k + 1, by omega, by rw [DN.out], by go_num, BB2.out⟩
                      case measure => simp [intOf]; omega
                    | false =>
                      cases hxy : eqDt (r2, n2) (r, n) with
                      | true =>
                        have DN : Hid (decide ((r, n) ∈ (evs (KS.take (k + 1))).map Ev.dot) = true) := Lib.hid (decide_eq_true (by rw [DT.out, ← (eqDt_iff (r2, n2) (r, n)).1 hxy]; exact List.mem_append_right _ (List.mem_singleton.2 rfl)))
                        rw [hxy] at hq1 hq2
                        clear hth DT hxy
                        go_wp2
                        go_roundw
                        case rel => exact ⟨k + 1, by omega, by rw [DN.out], by go_num, BB2.out⟩
                        case measure => simp [intOf]; omega
                      | false =>
                        have DN : Hid (decide ((r, n) ∈ (evs (KS.take (k + 1))).map Ev.dot) = false) := Lib.hid (decide_eq_false fun hm => by
                          rw [DT.out] at hm
                          rcases List.mem_append.1 hm with e | e
                          · exact of_decide_eq_false hth e
                          · have e2 := List.mem_singleton.1 e
                            rw [(eqDt_iff (r2, n2) (r, n)).2 e2.symm] at hxy; cases hxy)
                        rw [hxy] at hq1 hq2
                        clear hth DT hxy
                        go_wp2
                        go_roundw
                        case rel => exact ⟨k + 1, by omega, by rw [DN.out], by go_num, BB2.out⟩
                        case measure => simp [intOf]; omega
                  · obtain rfl : k = KS.length := by omega
                    have hkl' : ¬ ((KS.length : Nat) : Int) < KS.length := by omega
                    rw [List.take_length, decide_eq_true TD.out]
                    have BO := Lib.hid (thenBelow Ba'.out BK.out)
                    go_wp2
                    go_roundw
                    case rel => exact ⟨j + 1, by omega, by go_num, BO.out⟩
                    case measure => simp [intOf]; omega
          · obtain rfl : j = L.length := by omega
            have hjl' : ¬ ((L.length : Nat) : Int) < L.length := by omega
            have BE := Lib.hid (thenBelow Bf.out BI.out)
            have AW := Lib.hid (awake13 wr)
            go_wp2_with fail
            refine AW.out.mono ?_
            rintro e wz ⟨rfl, hbz⟩
            have BZ := Lib.hid (thenBelow BE.out hbz)
            clear AW hbz
            go_wp2
            go_ret
            exact ⟨rfl, BZ.out⟩
end Go.Proofs.Ytbdedemckmoidaa
