/- The walk of PagesLasts: what was synced is there behind any crash, if it was not written again. -/
import Derived.Test.YtfgjcgonlpbdbaaPgNewN
import Derived.Test.YtfgjcgonlpbdbaaPgDoes
import Derived.Test.YtfgjcgonlpbdbaaPgRead
import Derived.Test.YtfgjcgonlpbdbaaPgAwake
import Derived.Test.YtfgjcgonlpbdbaaOpen
namespace Go.Proofs.Ytfgjcgonlpbdbaa
open Go Go.RowKit
set_option linter.unusedVariables false

/-- an act of the list, with what its two lists hold -/
structure ActV where
  op : Int
  i : Int
  n : Int
  bp : Option Addr
  kp : Option Addr
  bc : Nat
  kc : Nat
  bs : List UInt8
  ks : List Int
/-- that an act's lists lie in a world, and its numbers are some -/
structure ActV.Ok (W : World) (v : ActV) : Prop where
  op : -9223372036854775808 ≤ v.op ∧ v.op ≤ 9223372036854775807
  n : -9223372036854775808 ≤ v.n ∧ v.n ≤ 9223372036854775807
  b : Lies W v.bp v.bs
  k : LiesI W v.kp v.ks
  bc : v.bs.length ≤ v.bc
  kl : v.ks.length ≤ 9223372036854775807
theorem lies_lt {w : World} {p : Option Addr} {l : List UInt8} (h : Lies w p l) : l ≠ [] → ∀ x o, p = some ⟨x, o, none⟩ → x < w.heap.size := fun h0 x o e => by
  obtain ⟨y, z, e1, hlt, _⟩ := h.at (List.length_pos_iff.2 h0)
  rw [e] at e1
  have := Option.some.inj e1
  injection this with q1 _ _
  omega
theorem liesI_lt {w : World} {p : Option Addr} {l : List Int} (h : LiesI w p l) : l ≠ [] → ∀ x o, p = some ⟨x, o, none⟩ → x < w.heap.size := fun h0 x o e => by
  obtain ⟨y, z, e1, hlt, _⟩ := h.at (List.length_pos_iff.2 h0)
  rw [e] at e1
  have := Option.some.inj e1
  injection this with q1 _ _
  omega
/-- the five cells of an act from a place on -/
def ActFrom (w : World) (b o : Nat) (v : ActV) : Prop :=
  w.cell? ⟨b, o, none⟩ = some (.int .i64 v.op) ∧ w.cell? ⟨b, o + 1, none⟩ = some (.int .i64 v.i) ∧ w.cell? ⟨b, o + 2, none⟩ = some (.int .i64 v.n) ∧ w.cell? ⟨b, o + 3, none⟩ = some (.slice v.bp v.bs.length v.bc) ∧ w.cell? ⟨b, o + 4, none⟩ = some (.slice v.kp v.ks.length v.kc)
/-- a list of acts lies in a world -/
def ActsLie (W : World) (p : Option Addr) (vs : List ActV) : Prop :=
  (∀ v ∈ vs, v.Ok W) ∧ (vs ≠ [] → ∃ b o, p = some ⟨b, o, none⟩ ∧ b < W.heap.size ∧ ∀ j v, vs[j]? = some v → ActFrom W b (o + j * 5) v)
section
variable {P : Program} {ops : Array Oper} {o : Oper} {a : Act} {w : World} {Q : Exit → Act → World → Prop} {S : World → Prop} {md : Region.Mode} {fuel : Nat} {listed : Array Bool}
theorem rgd_read (i : Nat) (d : Option Tmp) (hi : ops[i]? = some o) (hd : o.dst = d) (v : Value) (hs : Region.noSelect ops = true) (hf : Region.free md ops listed i = true) (hr : (Region.ready md ops listed).contains i = true)
    (hQ : ∀ c (a : Act) w v, Q (.panic c) (a.put d v) w → Q (.panic c) a w) (hw : Region.wanted o (yielded ops a.tmps) = true) (hrun : ∀ w, S w → (execOp a.eval o).run P w = .ok (.value v) w)
    (hS : S w) (h : wpAnyH P md ops Q S fuel (listed.setIfInBounds i true) (a.put d v) w) : wpAnyH P md ops Q S (fuel + 1) listed a w := by
  subst hd
  exact wpAnyH_take (v := v) hi hs hf hr (fun c a w => hQ c a w _) (Or.inl ⟨hw, fun w hw => hrun w hw⟩) hS h
theorem exec_conv (t s : TypeId) (x : Operand) (ho : o.op = .convert s t x) (vx v : Value) (hx : a.eval x = vx) (hrun : (convert s t vx).run P w = .ok v w) : (execOp a.eval o).run P w = .ok (.value v) w := by
  unfold execOp
  simp only [ho, hx]
  exact run_value_of hrun
theorem exec_eqlS (t yt : TypeId) (x y : Operand) (ho : o.op = .binOp .eql t x y yt) (u : ByteArray) (hx : a.eval x = .string u) (hy : a.eval y = .string u) (w : World) : (execOp a.eval o).run P w = .ok (.value (.bool true)) w := by
  unfold execOp
  simp only [ho, hx, hy]
  go_simp
end
set_option maxHeartbeats 8000000 in
set_option maxRecDepth 100000 in
theorem pagesLasts_walk (bp : Option Addr) (bc : Nat) (bs : List UInt8) (p : Option Addr) (c : Nat) (vs : List ActV) (W : World) (hb : Lies W bp bs) (hbc : bs.length ≤ bc) (hl : ActsLie W p vs) (hvl : vs.length ≤ 9223372036854775807) :
    Calls Try.prog 4 #[.slice bp bs.length bc, .slice p vs.length c] W (Yes W) := by
  have HB := Lib.hid hb; have HL := Lib.hid hl
  clear hb hl
  go_enter Try.func4, Try.ntmps4
  go_wp2_with fail
  refine (newDkN 8 (by omega) W).mono ?_
  rintro e w1 ⟨D, P, M, rfl, ⟨hD, hP, hM⟩, hdk, hmp, hbw⟩
  have DK1 := Lib.hid hdk; have WS1 : Hid (Was w1 M 8 (fun _ => []) [] 0) := Was.nil hmp
  have BW1 := Lib.hid hbw
  clear hdk hmp hbw
  go_upto_region 2 with fail
  obtain ⟨cs, hcs⟩ : ∃ cs, cs = bs.take 128 := ⟨_, rfl⟩
  have HCS := Lib.hid hcs
  have hcl : cs.length ≤ 128 := by rw [hcs, List.length_take]; omega
  have hcc : cs.length ≤ bc := by rw [hcs, List.length_take]; omega
  go_cut [0] (fun v wx => v = .slice bp cs.length bc ∧ wx = w1)
  case first =>
    have ct := cutB bp bs.length bc cs.length w1 hcc
    by_cases h2 : bs.length ≤ 128
    · have e : cs.length = bs.length := by rw [hcs, List.length_take]; omega
      rw [e] at ct
      have E := Lib.hid e
      have h22 : (bs.length : Int) ≤ 128 := by omega
      clear e hcs hcl hcc
      go_wp2
      go_meet
      exact ⟨by rw [E.out], rfl⟩
    · have e : cs.length = 128 := by rw [hcs, List.length_take]; omega
      rw [e] at ct
      have E := Lib.hid e
      have h22 : (128 : Int) < (bs.length : Int) := by omega
      clear e hcs hcl hcc
      go_wp2
      go_meet
      exact ⟨by rw [E.out], rfl⟩
  case rest =>
  obtain ⟨rfl, rfl⟩ := hcut
  have LB1 : Lies wc bp cs := by rw [hcs]; exact begun (HB.out.below BW1.out) 128
  have HBB : cs ≠ [] → ∀ x o, bp = some ⟨x, o, none⟩ → x < W.heap.size := fun h x o e => lies_lt HB.out (fun q => h (by rw [hcs, q]; rfl)) x o e
  clear hcs
  have WB := Lib.hid (write_goB 0 D P M 8 _ _ _ 0 false (-1) 3 bp bc cs wc DK1.out WS1.out (by simp [actD]) (by omega) LB1 (fun h x o e q => by have := HBB h x o e; have := Option.some.inj q; omega) hcl ⟨Nat.zero_le _, Nat.zero_le _, Nat.zero_le _⟩ (Nat.zero_le _))
  go_wp2_with fail
  refine WB.out.mono ?_
  rintro e w2 ⟨rfl, hd2, hw2, hb2⟩
  have D2 := Lib.hid hd2; have W2 := Lib.hid hw2; have B2 := Lib.hid hb2
  have SY := sync_allB 0 D P M 8 _ _ _ _ false _ w2 hd2 hw2 ⟨Nat.zero_le _, Nat.zero_le _⟩ (Nat.zero_le _)
  unfold SyncB at SY
  simp only [show actD false (actF false (-1)) = false by simp [actD, actF], Bool.false_eq_true, if_false] at SY
  have SYN := Lib.hid SY
  clear hd2 hw2 hb2 SY WB DK1 WS1 LB1 HBB
  go_wp2_with fail
  refine SYN.out.mono ?_
  rintro e w3 ⟨rfl, hd3, hw3, hb3⟩
  have PX3 : Hid (PX w3 D P M 8 (padded cs)) := ⟨_, _, _, _, _, _, hd3, hw3, by simp [upd], fun e he => by simp at he⟩
  have B3 := Lib.hid ((B2.out.trans hb3))
  have hnd := hd3.lt; have hnp := hd3.plt; have hnm := hw3.mlt
  clear hd3 hw3 hb3 SYN D2 W2 B2
  go_wp2_with fail
  refine (refNewN 8 (by omega) w3).mono ?_
  rintro e w4 ⟨A, a, b, d, ca, cb, cd, rfl, ⟨hA, ha, hb, hd⟩, hr4, hb4⟩
  have RX4 : Hid (RX w4 A a b d ca cb cd 8) := ⟨_, _, _, _, _, hr4, fun i hi => ⟨pageS_size [] (by simp), pageS_size [] (by simp)⟩⟩
  have PX4 := Lib.hid (PX3.out.below hb4)
  have BW4 : Hid (Below W.heap.size W w4) := (BW1.out.trans (B3.out.below ⟨hD, hP, hM⟩ BW1.out.size)).trans (hb4.mono (Nat.le_trans BW1.out.size B3.out.size))
  clear hr4 hb4 PX3 B3 BW1
  go_wp2_with fail
  go_loopg [37] vs.length (fun g i wr => ∃ k : Nat, k ≤ vs.length ∧ g = vs.length - k ∧ i = .int .i64 k ∧ PX wr D P M 8 (padded cs) ∧ RX wr A a b d ca cb cd 8 ∧ Below W.heap.size W wr)
  case atStart => exact ⟨0, by omega, by omega, rfl, PX4.out, RX4.out, BW4.out⟩
  case round =>
    obtain ⟨k, hk, hg, rfl, hpx, hrx, hbw⟩ := hrel
    have PX5 := Lib.hid hpx; have RX5 := Lib.hid hrx; have BW5 := Lib.hid hbw
    have hs5 := hbw.size
    clear hpx hrx hbw PX4 RX4 BW4
    by_cases hlt : k < vs.length
    · have hkI : (k : Int) < vs.length := by omega
      obtain ⟨⟨vo, vi, vn, vbp, vkp, vbc, vkc, vbs, vks⟩, hv⟩ : ∃ v, vs[k]? = some v := ⟨_, List.getElem?_eq_getElem hlt⟩
      have OK := Lib.hid (HL.out.1 _ (List.mem_of_getElem? hv))
      obtain ⟨B, o, rfl, hB, hall⟩ := HL.out.2 (by intro e; rw [e] at hlt; simp at hlt)
      have AF := hall k _ hv
      clear hall hv
      have AF2 : ActFrom wr B (o + k * 5) ⟨vo, vi, vn, vbp, vkp, vbc, vkc, vbs, vks⟩ := ⟨(BW5.out.cell hB).trans AF.1, (BW5.out.cell hB).trans AF.2.1, (BW5.out.cell hB).trans AF.2.2.1, (BW5.out.cell hB).trans AF.2.2.2.1, (BW5.out.cell hB).trans AF.2.2.2.2⟩
      clear AF
      obtain ⟨a0, a1, a2, a3, a4⟩ := AF2
      simp only [] at a0 a1 a2 a3 a4
      go_upto_region 9 with fail
      have al : Below wr.heap.size wr (wr.alloc (.cells #[.int .i64 vo, .int .i64 vi, .int .i64 vn, .slice vbp vbs.length vbc, .slice vkp vks.length vkc] 34)) := (Below.refl _ _).alloc (Nat.le_refl _) _
      have PX6 := Lib.hid (PX5.out.below al); have RX6 := Lib.hid (RX5.out.below (T := 0) al); have BW6 : Hid (Below W.heap.size W _) := BW5.out.trans (al.mono hs5)
      have AT6 := ActAt.of (heap_alloc_new wr (.cells (actObj vo vi vn vbp vkp vbs.length vbc vks.length vkc) 34))
      unfold actObj at AT6
      clear a0 a1 a2 a3 a4 PX5 RX5 BW5 al
      generalize wr.alloc (.cells #[.int .i64 vo, .int .i64 vi, .int .i64 vn, .slice vbp vbs.length vbc, .slice vkp vks.length vkc] 34) = w6 at PX6 RX6 BW6 AT6 ⊢
      generalize wr.heap.size = N at AT6 ⊢
      obtain ⟨e0, e1, e2, e3, e4⟩ := AT6
      go_cut [55] (fun s wx => ∃ cnd : Bool, s = .bool cnd ∧ (cnd = true → vi ≠ 3 ∨ 2 < Int.tmod (opU vo) 6) ∧ wx = w6)
      case first =>
        by_cases h60 : (k : Int) < 60
        · by_cases h3 : vi = 3
          · subst h3
            by_cases hr : 2 < Int.tmod (opU vo) 6
            · have hr2 : Int.tmod (IntKind.u64.wrap vo) 6 > 2 := hr
              have HR := Lib.hid hr
              clear hr
              go_wp2
              go_meet
              exact ⟨_, rfl, fun _ => Or.inr HR.out, rfl⟩
            · have hr2 : ¬ Int.tmod (IntKind.u64.wrap vo) 6 > 2 := hr
              clear hr
              go_wp2
              go_meet
              exact ⟨false, rfl, (fun h => by cases h), rfl⟩
          · have hb3 : (vi != 3) = true := by simp [h3]
            have H3 := Lib.hid h3
            go_wp2
            go_meet
            exact ⟨_, rfl, fun _ => Or.inl H3.out, rfl⟩
        · go_wp2
          go_meet
          exact ⟨false, rfl, (fun h => by cases h), rfl⟩
      case rest =>
      obtain ⟨cnd, rfl, hcnd, rfl⟩ := hcut
      cases cnd with
      | true =>
        have hc2 := Lib.hid (hcnd rfl)
        clear hcnd
        have hs6 := BW6.out.size
        have hdo := Lib.hid (does_any W.heap.size D P M 8 A a b d ca cb cd 8 (padded cs) vo vi vn vbp vkp vbs vks vbc vkc wc OK.out.op OK.out.n hc2.out PX6.out RX6.out (by omega) (OK.out.b.below BW6.out) (OK.out.k.below BW6.out) OK.out.bc OK.out.kl (lies_lt OK.out.b) (liesI_lt OK.out.k) ⟨hD, hP, hM⟩ (by omega) hs6)
        unfold actObj at hdo
        go_wp2_with fail
        refine hdo.out.mono ?_
        rintro e w7 ⟨⟨v2, rfl⟩, hp7, hr7, hb7⟩
        have PX7 := Lib.hid hp7; have RX7 := Lib.hid hr7; have BW7 := Lib.hid (BW6.out.trans hb7)
        clear hp7 hr7 hb7 hdo PX6 RX6 BW6 e0 e1 e2 e3 e4
        go_wp2_with fail
        go_roundg (vs.length - (k + 1))
        case measure => omega
        case rel => exact ⟨k + 1, by omega, rfl, by go_num, PX7.out, RX7.out, BW7.out⟩
      | false =>
        clear hcnd
        go_wp2_with fail
        go_roundg (vs.length - (k + 1))
        case measure => omega
        case rel => exact ⟨k + 1, by omega, rfl, by go_num, PX6.out, RX6.out, BW6.out⟩
    · obtain rfl : k = vs.length := by omega
      have hkI : ¬ (vs.length : Int) < vs.length := by omega
      have CR := Lib.hid (crashB_any D P M 8 (padded cs) wr PX5.out none 0 [] 3 5 (fun h => absurd rfl h) (fun h => absurd rfl h) (by decide))
      go_wp2_with fail
      refine CR.out.mono ?_
      rintro e w8 ⟨rfl, ⟨pg, c8, hd8, hm8, hpg⟩, -, hb8⟩
      have BW8 := Lib.hid (BW5.out.trans (hb8.below ⟨hD, hP, hM⟩ hs5))
      have RD := Lib.hid (read_is D P M 8 pg 3 w8 hd8 (by omega))
      have HPG := Lib.hid hpg
      clear hd8 hm8 hb8 hpg CR PX5 RX5 BW5
      go_wp2_with fail
      refine RD.out.mono ?_
      rintro e w9 ⟨u, rfl, hown, hb9⟩
      rw [HPG.out] at hown
      have OW := Lib.hid hown
      have BW9 := Lib.hid (BW8.out.trans (hb9.mono BW8.out.size))
      clear hown hb9 RD HPG BW8
      have hpl : 0 < (padded cs).length := by unfold padded; simp; omega
      obtain ⟨g, cap, rfl, hgB, hgl⟩ := OW.out.form hpl
      have L9 : Lies w9.drew (some ⟨g, 0, none⟩) (padded cs) := by
        intro _
        refine ⟨g, 0, rfl, fun j hj => ?_⟩
        rw [Nat.zero_add]
        refine (OW.out.cellAt j (by omega)).trans ?_
        simp [bys, List.getD, hj]
      have LB9 : Lies w9.drew bp cs := by rw [HCS.out]; exact (begun (HB.out.below BW9.out) 128).drew
      replace BW9 : Below W.heap.size W w9.drew := BW9.out.drew
      clear OW
      go_wp2_with fail
      refine rg_start (n := 13) (S := fun w' => Lies w' (some ⟨g, 0, none⟩) (padded cs)) (by kernel_rfl) rfl L9 ?_
      generalize w9.drew = w0 at L9 LB9 BW9 ⊢
      refine rgd_pure 0 (some 68) rfl rfl (.int .i64 0) (by kernel_rfl) (by kernel_rfl) (by kernel_rfl) (fun _ _ _ _ h => h) (by kernel_rfl) (fun _ => by kernel_rfl) L9 ?_
      refine rgd_pure 1 (some 69) rfl rfl (.bool true) (by kernel_rfl) (by kernel_rfl) (by kernel_rfl) (fun _ _ _ _ h => h) (by kernel_rfl) (fun _ => by kernel_rfl) L9 ?_
      refine rgd_pure 2 (some 70) rfl rfl (.bool true) (by kernel_rfl) (by kernel_rfl) (by kernel_rfl) (fun _ _ _ _ h => h) (by kernel_rfl) (fun _ => by kernel_rfl) L9 ?_
      refine rgd_pure 3 (some 71) rfl rfl (.slice (some ⟨g, 0, none⟩) (padded cs).length cap) (by kernel_rfl) (by kernel_rfl) (by kernel_rfl) (fun _ _ _ _ h => h) (by kernel_rfl) (fun _ => by kernel_rfl) L9 ?_
      refine rgd_read 4 (some 72) rfl rfl (.string (pageS cs)) (by kernel_rfl) (by kernel_rfl) (by kernel_rfl) (fun _ _ _ _ h => h) (by kernel_rfl) (fun w h => exec_conv _ _ _ rfl _ _ (by kernel_rfl) (h.convert (padded cs).length rfl cap 31 5 9 Try.underlying31 Try.underlying5 Try.underlying9)) L9 ?_
      refine rgd_pure 5 (some 73) rfl rfl (.slice bp cs.length bc) (by kernel_rfl) (by kernel_rfl) (by kernel_rfl) (fun _ _ _ _ h => h) (by kernel_rfl) (fun _ => by kernel_rfl) L9 ?_
      refine rgd_call 6 (some 74) (by kernel_rfl) rfl rfl (by kernel_rfl) 18 #[.slice bp cs.length bc] (by kernel_rfl) (refPage_is bp bc cs w0 LB9 (by omega)) ?_
      rintro e w' ⟨rfl, rfl⟩
      refine ⟨_, rfl, L9, ?_⟩
      refine rgd_pure 7 (some 75) rfl rfl (.bool true) (by kernel_rfl) (by kernel_rfl) (by kernel_rfl) (fun _ _ _ _ h => h) (by kernel_rfl) (exec_eqlS _ _ _ _ rfl (pageS cs) (by kernel_rfl) (by kernel_rfl)) L9 ?_
      refine rgd_pure 8 (some 76) rfl rfl (.bool true) (by kernel_rfl) (by kernel_rfl) (by kernel_rfl) (fun _ _ _ _ h => h) (by kernel_rfl) (fun _ => by kernel_rfl) L9 ?_
      refine rgd_pure 9 (some 77) rfl rfl (.bool true) (by kernel_rfl) (by kernel_rfl) (by kernel_rfl) (fun _ _ _ _ h => h) (by kernel_rfl) (fun _ => by kernel_rfl) L9 ?_
      refine rgd_call 10 (some 78) (by kernel_rfl) rfl rfl (by kernel_rfl) 9 #[] (by kernel_rfl) (awake10 w0) ?_
      rintro e w' ⟨rfl, hb10⟩
      have L10 : Lies w' (some ⟨g, 0, none⟩) (padded cs) := L9.below hb10
      have R10 : Hid (Yes W (.returned (.bool true)) w') := ⟨rfl, BW9.trans (hb10.mono BW9.size)⟩
      refine ⟨_, rfl, L10, ?_⟩
      refine rgd_pure 11 (some 79) rfl rfl (.bool true) (by kernel_rfl) (by kernel_rfl) (by kernel_rfl) (fun _ _ _ _ h => h) (by kernel_rfl) (fun _ => by kernel_rfl) L10 ?_
      refine rgd_pure 12 (some 4) rfl rfl (.bool true) (by kernel_rfl) (by kernel_rfl) (by kernel_rfl) (fun _ _ _ _ h => h) (by kernel_rfl) (fun _ => by kernel_rfl) L10 ?_
      refine wpAnyH_done (by kernel_rfl) ?_ _
      simp only [Act.put, List.setIfInBounds_toArray, List.set_cons_zero, List.set_cons_succ]
      go_wp2
      exact bodyPost_ret (v := .bool true) (by kernel_rfl) (by kernel_rfl) R10.out
end Go.Proofs.Ytfgjcgonlpbdbaa
