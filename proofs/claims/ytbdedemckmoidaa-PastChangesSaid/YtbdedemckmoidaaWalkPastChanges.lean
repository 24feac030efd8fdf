/- The walk of PastChanges. -/
import Derived.Test.YtbdedemckmoidaaPastSame2
import Derived.Test.YtbdedemckmoidaaPastAwake
import Derived.Test.YtbdedemckmoidaaVecRows
namespace Go.Proofs.Ytbdedemckmoidaa
open Go Go.RowKit
set_option linter.unusedVariables false

/-- two pasts that are the same, one of a call's own, the other's events among some that lie -/
theorem same_of (src : List EvP) (hg : ∀ x ∈ src, x.e.gone.length ≤ 1000) (p : Option Addr) (c : Nat) (L : List EvP) (q : Option Addr) (c' : Nat) (M : List EvP) (f : Nat → Int) (w : World) (h : EvsAt w p L) (h2 : EvsAt w q M) (he : evs L = evs M) (hn : M.length ≤ 1000) (hs : ∀ x ∈ M, x ∈ src) :
    Calls Try.prog 9 #[.agg (pcs (.slice p L.length c) f), .agg (pcs (.slice q M.length c') f)] w (RetBool w true) := by
  have hl : L.length = M.length := by have := congrArg List.length he; simpa [evs] using this
  refine refSameP_is p c L q c' M f w h h2 he (by omega) fun x hx => ?_
  have h1 : x.e ∈ evs M := by rw [← he]; exact List.mem_map.2 ⟨x, hx, rfl⟩
  obtain ⟨y, hy, e⟩ := List.mem_map.1 h1
  rw [← e]
  exact hg y (hs y hy)
set_option maxHeartbeats 20000000 in
set_option maxRecDepth 1000000 in
theorem pastChanges_walk (p : Option Addr) (c : Nat) (L : List EvP) (F : Nat → Int) (x : EvP) (most : Int) (v : Nat → Int) (W : World) (h : EvsAt W p L) (ho : ∀ a, p = some a → ∃ b o, a = ⟨b, o, none⟩) (hlc : L.length ≤ c) (hpc : p = none → c = 0) (hx : x.Ok W) (hm : (Lit.int .i64 most).wf = true) :
    Calls Try.prog 3 #[.agg (pcs (.slice p L.length c) F), .agg x.cells.toArray, .int .i64 most, .agg (vf v)] W (Yes W) := by
  have hmr := wide_wf hm
  have EV := Lib.hid h; have HO := Lib.hid ho; have HX := Lib.hid hx; have HPC := Lib.hid hpc
  clear h ho hm hx hpc
  have SZ := Lib.hid (sizeEv x)
  go_enter Try.func3, Try.ntmps3
  go_wp2_with (refine wpList_gbox rfl _ rfl (pcs (.slice p L.length c) F) rfl ?_)
  intro g4 w1 l1 h1 hb1
  have P1 : Hid (Px w1 g4 (.slice p L.length c) F) := Lib.hid h1
  have B1 := Lib.hid hb1
  clear h1 hb1
  go_wp2_with (refine wpList_gbox rfl _ rfl x.cells.toArray rfl ?_)
  intro g5 w2 l2 h2 hb2
  have P2 := Lib.hid (P1.out.later hb2); have B2 := Lib.hid (thenBelow B1.out hb2)
  have X2 := Lib.hid h2
  clear h2 hb2 P1
  go_wp2_with (refine wpList_vbox vecI rfl _ rfl v rfl ?_)
  intro g7 w3 l3 rv hb3
  have P3 := Lib.hid (P2.out.later hb3); have B3 := Lib.hid (thenBelow B2.out hb3); have R3 := Lib.hid rv
  have X3 := Lib.hid ((hb3.block g5 (Array.getElem?_eq_some_iff.1 X2.out).1).trans X2.out)
  clear rv hb3 P2 X2
  have X3' : Hid (w3.rangeAt g5 0 x.cells) := Lib.hid (by simpa using range_of_block X3.out)
  obtain ⟨k0, k1, k2, k3, k4, k5, k6, k7⟩ := ev_cells X3'.out
  have s3 := P3.out.slot
  have ba := below_alloc w3 (.cells x.cells.toArray 31)
  have na := heap_alloc_new w3 (.cells x.cells.toArray 31)
  have bb := below_alloc (w3.alloc (.cells x.cells.toArray 31)) (.cells #[.slice p L.length c, .slice (some ⟨w3.heap.size, 0, none⟩) 1 1] 22)
  have nb := heap_alloc_new (w3.alloc (.cells x.cells.toArray 31)) (.cells #[.slice p L.length c, .slice (some ⟨w3.heap.size, 0, none⟩) 1 1] 22)
  have B5 := Lib.hid (thenBelow B3.out (thenBelow ba bb))
  have P5 := Lib.hid (P3.out.later (thenBelow ba bb)); have R5 := Lib.hid (R3.out.later (thenBelow ba bb))
  have X5 := Lib.hid (((thenBelow ba bb).block g5 (Array.getElem?_eq_some_iff.1 X3.out).1).trans X3.out)
  have E5 := Lib.hid (EV.out.below B5.out)
  have hn5 : ((w3.alloc (.cells x.cells.toArray 31)).alloc (.cells #[.slice p L.length c, .slice (some ⟨w3.heap.size, 0, none⟩) 1 1] 22)).heap[w3.heap.size + 1]? = some (.cells #[.slice p L.length c, .slice (some ⟨w3.heap.size, 0, none⟩) 1 1] 22 (0, 0)) := by simpa [World.size_alloc] using nb
  have ha5 := (bb.block _ (Array.getElem?_eq_some_iff.1 na).1).trans na
  have EX5 : EvsAt ((w3.alloc (.cells x.cells.toArray 31)).alloc (.cells #[.slice p L.length c, .slice (some ⟨w3.heap.size, 0, none⟩) 1 1] 22)) (some ⟨w3.heap.size, 0, none⟩) [x] := evs_one (HX.out.below B5.out) (by simpa using range_of_block ha5)
  have FW : Hid (Calls Try.prog 7 #[.slice (some ⟨w3.heap.size + 1, 0, none⟩) 2 2] ((w3.alloc (.cells x.cells.toArray 31)).alloc (.cells #[.slice p L.length c, .slice (some ⟨w3.heap.size, 0, none⟩) 1 1] 22)) (FewR ((w3.alloc (.cells x.cells.toArray 31)).alloc (.cells #[.slice p L.length c, .slice (some ⟨w3.heap.size, 0, none⟩) 1 1] 22)) [⟨p, c, L⟩, ⟨some ⟨w3.heap.size, 0, none⟩, 1, [x]⟩])) :=
    Lib.hid (fewE_is (w3.heap.size + 1) 2 [⟨p, c, L⟩, ⟨some ⟨w3.heap.size, 0, none⟩, 1, [x]⟩] _ (fun i hi => by
      have hi2 : i < 2 := hi
      match i, hi2 with
      | 0, _ => exact ⟨(cell_of_row _ _ 0 _ _ _ hn5).trans rfl, E5.out⟩
      | 1, _ => exact ⟨(cell_of_row _ _ 1 _ _ _ hn5).trans rfl, EX5⟩) (by simp))
  clear ba na bb nb hn5 ha5 EX5 X3'
  obtain ⟨⟨r, n, t, kd, dc, fl, tx, gn⟩, gp, gc⟩ := x
  simp only [EvP.cells] at SZ X3 B5 P5 R5 X5 E5 FW k0 k1 k2 k3 k4 k5 k6 k7 ⊢
  go_wp2_with fail
  generalize (w3.alloc (.cells #[.int .i64 r, .int .i64 n, .int .i64 t, .int .i64 kd, .string dc, .int .i64 fl, .string tx, .slice gp gn.length gc] 31)).alloc (.cells #[.slice p L.length c, .slice (some ⟨w3.heap.size, 0, none⟩) 1 1] 22) = w5 at P5 R5 X5 B5 E5 FW ⊢
  refine FW.out.mono ?_
  rintro e w6 ⟨fw, rfl, hfw, hb6⟩
  have P6 := Lib.hid (P5.out.later hb6); have R6 := Lib.hid (R5.out.later hb6); have B6 := Lib.hid (thenBelow B5.out hb6); have E6 := Lib.hid (E5.out.below hb6)
  have X6 := Lib.hid ((hb6.block g5 (Array.getElem?_eq_some_iff.1 X5.out).1).trans X5.out)
  clear FW hb6 P3 R3 E5 s3 P5 R5 X5 X3 k0 k1 k2 k3 k4 k5 k6 k7
  cases fw with
  | false =>
    have AW := Lib.hid (awake13 w6)
    clear hfw
    go_wp2_with fail
    refine AW.out.mono ?_
    rintro e w9 ⟨rfl, hb9⟩
    have B9 := Lib.hid (thenBelow B6.out hb9)
    clear hb9
    go_wp2
    go_ret
    exact ⟨rfl, B9.out⟩
  | true =>
    have hsm := hfw rfl 0 (by simp)
    have hsx := hfw rfl 1 (by simp)
    have h80 : L.length ≤ 80 := hsm.1
    have hxg : gn.length ≤ 130 := hsx.2 _ (List.mem_singleton.2 rfl)
    have HG : Hid (∀ x ∈ L, x.e.gone.length ≤ 1000) := Lib.hid fun x hx => Nat.le_trans (hsm.2 x hx) (by decide)
    clear hfw hsm hsx
    go_wp2_with fail
    rename_i K hK
    have B7 := Lib.hid (to_drew B6.out); have P7 : Hid (Px w6.drew g4 (.slice p L.length c) F) := Lib.hid P6.out; have R7 : Hid (Row w6.drew g7 24 v) := Lib.hid R6.out; have E7 := Lib.hid (EV.out.below B7.out)
    have X7 : Hid (w6.drew.heap[g5]? = some (.cells #[.int .i64 r, .int .i64 n, .int .i64 t, .int .i64 kd, .string dc, .int .i64 fl, .string tx, .slice gp gn.length gc] 31 (0, 0))) := Lib.hid X6.out
    have HX7 := Lib.hid (HX.out.below B7.out)
    have T1 : Hid (∀ U, Below w6.drew.heap.size w6.drew U → Calls Try.prog 10 #[.agg (pcs (.slice p L.length c) F), .agg #[.int .i64 r, .int .i64 n, .int .i64 t, .int .i64 kd, .string dc, .int .i64 fl, .string tx, .slice gp gn.length gc]] U (PastR U (behindOf (evs L) [⟨r, n, t, kd, dc, fl, tx, gn⟩]) F)) := Lib.hid fun U hU => add_is p c L F ⟨⟨r, n, t, kd, dc, fl, tx, gn⟩, gp, gc⟩ U (E7.out.below hU) HO.out (by omega) HG.out (HX7.out.below hU) (Nat.le_trans hxg (by decide))
    have T2 : Hid (∀ U, Below w6.drew.heap.size w6.drew U → Calls Try.prog 11 #[.agg (pcs (.slice p L.length c) F), .agg #[.int .i64 r, .int .i64 n, .int .i64 t, .int .i64 kd, .string dc, .int .i64 fl, .string tx, .slice gp gn.length gc]] U (PastS U (L ++ [⟨⟨r, n, t, kd, dc, fl, tx, gn⟩, gp, gc⟩]) (behindOf (evs L) [⟨r, n, t, kd, dc, fl, tx, gn⟩]) F)) := Lib.hid fun U hU => refAdd_is p c L F ⟨⟨r, n, t, kd, dc, fl, tx, gn⟩, gp, gc⟩ U (E7.out.below hU) HPC.out (by omega)
    have T3 : Hid (∀ U, Below w6.drew.heap.size w6.drew U → Calls Try.prog 12 #[.agg (pcs (.slice p L.length c) F), .int .i64 most] U (PastR U (trimOf (evs L) F most).2.1 (trimOf (evs L) F most).2.2)) := Lib.hid fun U hU => trim_is p c L F most U (E7.out.below hU) HO.out (by omega) HG.out hmr
    have T4 : Hid (∀ U, Below w6.drew.heap.size w6.drew U → Calls Try.prog 13 #[.agg (pcs (.slice p L.length c) F), .int .i64 most] U (PastS U L (trimOf (evs L) F most).2.1 (trimOf (evs L) F most).2.2)) := Lib.hid fun U hU => refTrim_is p c L F most U (E7.out.below hU) (by omega) hlc
    have T5 : Hid (∀ U, Below w6.drew.heap.size w6.drew U → Calls Try.prog 14 #[.agg (pcs (.slice p L.length c) F), .agg (vf v)] U (PastR U (collOf (evs L) F v).2.1 (collOf (evs L) F v).2.2)) := Lib.hid fun U hU => coll_is p c L F v U (E7.out.below hU) HO.out (by omega) HG.out
    have T6 : Hid (∀ U, Below w6.drew.heap.size w6.drew U → Calls Try.prog 15 #[.agg (pcs (.slice p L.length c) F), .agg (vf v)] U (PastS U L (collOf (evs L) F v).2.1 (collOf (evs L) F v).2.2)) := Lib.hid fun U hU => refColl_is p c L F v U (E7.out.below hU) (by omega)
    have z1 : (behindOf (evs L) [⟨r, n, t, kd, dc, fl, tx, gn⟩]).length ≤ 1000 := by have h1 := behindOf_len (evs L) [⟨r, n, t, kd, dc, fl, tx, gn⟩]; have h2 : (evs L).length = L.length := (by simp [evs]); simp only [List.length_cons, List.length_nil] at h1; omega
    have z2 : (trimOf (evs L) F most).2.1.length ≤ 1000 := Nat.le_trans (keptLen_trim L F most) (by omega)
    have z3 : (collOf (evs L) F v).2.1.length ≤ 1000 := Nat.le_trans (keptLen_coll L F v) (by omega)
    generalize behindOf (evs L) [⟨r, n, t, kd, dc, fl, tx, gn⟩] = kA at T1 T2 z1
    generalize (trimOf (evs L) F most).2.1 = kT at T3 T4 z2
    generalize (trimOf (evs L) F most).2.2 = fT at T3 T4 z2
    generalize (collOf (evs L) F v).2.1 = kC at T5 T6 z3
    generalize (collOf (evs L) F v).2.2 = fC at T5 T6 z3
    have OKL : Hid (∀ U, Below w6.drew.heap.size w6.drew U → ∀ z ∈ L, z.Ok U) := Lib.hid fun U hU z hz => (E7.out.ok z hz).below hU
    have OKX : Hid (∀ U, Below w6.drew.heap.size w6.drew U → ∀ z ∈ L ++ [⟨⟨r, n, t, kd, dc, fl, tx, gn⟩, gp, gc⟩], z.Ok U) := Lib.hid fun U hU z hz => by
      rcases List.mem_append.1 hz with h | h
      · exact OKL.out U hU z h
      · obtain rfl := List.mem_singleton.1 h
        exact HX7.out.below hU
    have HGX : Hid (∀ z ∈ L ++ [⟨⟨r, n, t, kd, dc, fl, tx, gn⟩, gp, gc⟩], z.e.gone.length ≤ 1000) := Lib.hid fun z hz => by
      rcases List.mem_append.1 hz with h | h
      · exact HG.out z h
      · obtain rfl := List.mem_singleton.1 h
        exact Nat.le_trans hxg (by decide)
    have XR : Hid (∀ U, Below w6.drew.heap.size w6.drew U → U.rangeAt g5 0 [.int .i64 r, .int .i64 n, .int .i64 t, .int .i64 kd, .string dc, .int .i64 fl, .string tx, .slice gp gn.length gc]) := Lib.hid fun U hU => by
      have h1 := (hU.block g5 (Array.getElem?_eq_some_iff.1 X7.out).1).trans X7.out
      simpa using range_of_block h1
    have m0 : Below w6.drew.heap.size w6.drew w6.drew := Below.refl _ _
    refine rg_calm (by kernel_rfl) rfl (S := fun U => Below w6.drew.heap.size w6.drew U) ?_
    refine rgd_pureS 0 (some 17) rfl rfl (.agg (pcs (.slice p L.length c) F)) (by kernel_rfl) (by kernel_rfl) (by kernel_rfl) (fun _ _ _ _ h => h) (by kernel_rfl) (fun U hU => exec_gload 26 _ rfl g4 0 (by kernel_rfl) _ ((P7.out.later hU).whole) Try.underlying26 rfl (sizePl _ F)) m0 ?_
    refine rgd_pureS 1 (some 18) rfl rfl (.agg #[.int .i64 r, .int .i64 n, .int .i64 t, .int .i64 kd, .string dc, .int .i64 fl, .string tx, .slice gp gn.length gc]) (by kernel_rfl) (by kernel_rfl) (by kernel_rfl) (fun _ _ _ _ h => h) (by kernel_rfl) (fun U hU => exec_gload 31 _ rfl g5 0 (by kernel_rfl) _ (XR.out U hU) Try.underlying31 rfl (SZ.out)) m0 ?_
    refine rgd_pureS 3 (some 20) rfl rfl (.agg (pcs (.slice p L.length c) F)) (by kernel_rfl) (by kernel_rfl) (by kernel_rfl) (fun _ _ _ _ h => h) (by kernel_rfl) (fun U hU => exec_gload 26 _ rfl g4 0 (by kernel_rfl) _ ((P7.out.later hU).whole) Try.underlying26 rfl (sizePl _ F)) m0 ?_
    refine rgd_pureS 4 (some 21) rfl rfl (.agg #[.int .i64 r, .int .i64 n, .int .i64 t, .int .i64 kd, .string dc, .int .i64 fl, .string tx, .slice gp gn.length gc]) (by kernel_rfl) (by kernel_rfl) (by kernel_rfl) (fun _ _ _ _ h => h) (by kernel_rfl) (fun U hU => exec_gload 31 _ rfl g5 0 (by kernel_rfl) _ (XR.out U hU) Try.underlying31 rfl (SZ.out)) m0 ?_
    refine rgd_call 2 (some 19) (by kernel_rfl) rfl rfl (by kernel_rfl) 10 (#[.agg (pcs (.slice p L.length c) F), .agg #[.int .i64 r, .int .i64 n, .int .i64 t, .int .i64 kd, .string dc, .int .i64 fl, .string tx, .slice gp gn.length gc]]) (by kernel_rfl) (T1.out w6.drew m0) ?_
    rintro _ y1 ⟨vA, KA, rfl, hA, eA, bA⟩
    have m1 : Below w6.drew.heap.size w6.drew y1 := thenBelow m0 bA
    obtain ⟨pA, cA, rfl, _, EA, _⟩ := hA.at
    refine ⟨_, rfl, m1, ?_⟩
    refine rgd_call 5 (some 22) (by kernel_rfl) rfl rfl (by kernel_rfl) 11 (#[.agg (pcs (.slice p L.length c) F), .agg #[.int .i64 r, .int .i64 n, .int .i64 t, .int .i64 kd, .string dc, .int .i64 fl, .string tx, .slice gp gn.length gc]]) (by kernel_rfl) (T2.out y1 m1) ?_
    rintro _ y2 ⟨vB, KB, rfl, hB, sB, eB, bB⟩
    have m2 : Below w6.drew.heap.size w6.drew y2 := thenBelow m1 bB
    obtain ⟨pB, cB, rfl, _, EB, _⟩ := own_at hB (fun z hz => OKX.out y2 m2 z (sB z hz))
    refine ⟨_, rfl, m2, ?_⟩
    have lB : KB.length ≤ 1000 := by have h1 := congrArg List.length eB; simp only [evs, List.length_map] at h1; omega
    refine rgd_call 6 (some 23) (by kernel_rfl) rfl rfl (by kernel_rfl) 9 (#[.agg (pcs (.slice pA KA.length cA) F), .agg (pcs (.slice pB KB.length cB) F)]) (by kernel_rfl) (same_of _ HGX.out pA cA KA pB cB KB F y2 (EA.below bB) EB (eA.trans eB.symm) lB sB) ?_
    rintro _ y3 ⟨rfl, b3⟩
    have m3 : Below w6.drew.heap.size w6.drew y3 := thenBelow m2 b3
    refine ⟨_, rfl, m3, ?_⟩
    refine rgd_pure 7 (some 24) rfl rfl (.bool true) (by kernel_rfl) (by kernel_rfl) (by kernel_rfl) (fun _ _ _ _ h => h) (by kernel_rfl) (fun w => by kernel_rfl) m3 ?_
    refine rgd_pureS 8 (some 25) rfl rfl (.agg (pcs (.slice p L.length c) F)) (by kernel_rfl) (by kernel_rfl) (by kernel_rfl) (fun _ _ _ _ h => h) (by kernel_rfl) (fun U hU => exec_gload 26 _ rfl g4 0 (by kernel_rfl) _ ((P7.out.later hU).whole) Try.underlying26 rfl (sizePl _ F)) m3 ?_
    refine rgd_pure 9 (some 26) rfl rfl (.int .i64 most) (by kernel_rfl) (by kernel_rfl) (by kernel_rfl) (fun _ _ _ _ h => h) (by kernel_rfl) (fun w => by kernel_rfl) m3 ?_
    refine rgd_pureS 11 (some 28) rfl rfl (.agg (pcs (.slice p L.length c) F)) (by kernel_rfl) (by kernel_rfl) (by kernel_rfl) (fun _ _ _ _ h => h) (by kernel_rfl) (fun U hU => exec_gload 26 _ rfl g4 0 (by kernel_rfl) _ ((P7.out.later hU).whole) Try.underlying26 rfl (sizePl _ F)) m3 ?_
    refine rgd_pure 12 (some 29) rfl rfl (.int .i64 most) (by kernel_rfl) (by kernel_rfl) (by kernel_rfl) (fun _ _ _ _ h => h) (by kernel_rfl) (fun w => by kernel_rfl) m3 ?_
    refine rgd_call 10 (some 27) (by kernel_rfl) rfl rfl (by kernel_rfl) 12 (#[.agg (pcs (.slice p L.length c) F), .int .i64 most]) (by kernel_rfl) (T3.out y3 m3) ?_
    rintro _ y4 ⟨vC, KC, rfl, hC, eC, bC⟩
    have m4 : Below w6.drew.heap.size w6.drew y4 := thenBelow m3 bC
    obtain ⟨pC, cC, rfl, _, EC, _⟩ := hC.at
    refine ⟨_, rfl, m4, ?_⟩
    refine rgd_call 13 (some 30) (by kernel_rfl) rfl rfl (by kernel_rfl) 13 (#[.agg (pcs (.slice p L.length c) F), .int .i64 most]) (by kernel_rfl) (T4.out y4 m4) ?_
    rintro _ y5 ⟨vD, KD, rfl, hD, sD, eD, bD⟩
    have m5 : Below w6.drew.heap.size w6.drew y5 := thenBelow m4 bD
    obtain ⟨pD, cD, rfl, _, ED, _⟩ := own_at hD (fun z hz => OKL.out y5 m5 z (sD z hz))
    refine ⟨_, rfl, m5, ?_⟩
    have lD : KD.length ≤ 1000 := by have h1 := congrArg List.length eD; simp only [evs, List.length_map] at h1; omega
    refine rgd_call 14 (some 31) (by kernel_rfl) rfl rfl (by kernel_rfl) 9 (#[.agg (pcs (.slice pC KC.length cC) fT), .agg (pcs (.slice pD KD.length cD) fT)]) (by kernel_rfl) (same_of _ HG.out pC cC KC pD cD KD fT y5 (EC.below bD) ED (eC.trans eD.symm) lD sD) ?_
    rintro _ y6 ⟨rfl, b6⟩
    have m6 : Below w6.drew.heap.size w6.drew y6 := thenBelow m5 b6
    refine ⟨_, rfl, m6, ?_⟩
    refine rgd_pure 15 (some 32) rfl rfl (.bool true) (by kernel_rfl) (by kernel_rfl) (by kernel_rfl) (fun _ _ _ _ h => h) (by kernel_rfl) (exec_pickT _ _ _ rfl _ (by kernel_rfl) (by kernel_rfl)) m6 ?_
    refine rgd_pure 16 (some 33) rfl rfl (.bool true) (by kernel_rfl) (by kernel_rfl) (by kernel_rfl) (fun _ _ _ _ h => h) (by kernel_rfl) (fun w => by kernel_rfl) m6 ?_
    refine rgd_pureS 17 (some 34) rfl rfl (.agg (pcs (.slice p L.length c) F)) (by kernel_rfl) (by kernel_rfl) (by kernel_rfl) (fun _ _ _ _ h => h) (by kernel_rfl) (fun U hU => exec_gload 26 _ rfl g4 0 (by kernel_rfl) _ ((P7.out.later hU).whole) Try.underlying26 rfl (sizePl _ F)) m6 ?_
    refine rgd_pureS 18 (some 35) rfl rfl (.agg (vf v)) (by kernel_rfl) (by kernel_rfl) (by kernel_rfl) (fun _ _ _ _ h => h) (by kernel_rfl) (fun U hU => exec_gload 24 _ rfl g7 0 (by kernel_rfl) _ ((R7.out.later hU).range) Try.underlying24 rfl (sizeVcl v)) m6 ?_
    refine rgd_pureS 20 (some 37) rfl rfl (.agg (pcs (.slice p L.length c) F)) (by kernel_rfl) (by kernel_rfl) (by kernel_rfl) (fun _ _ _ _ h => h) (by kernel_rfl) (fun U hU => exec_gload 26 _ rfl g4 0 (by kernel_rfl) _ ((P7.out.later hU).whole) Try.underlying26 rfl (sizePl _ F)) m6 ?_
    refine rgd_pureS 21 (some 38) rfl rfl (.agg (vf v)) (by kernel_rfl) (by kernel_rfl) (by kernel_rfl) (fun _ _ _ _ h => h) (by kernel_rfl) (fun U hU => exec_gload 24 _ rfl g7 0 (by kernel_rfl) _ ((R7.out.later hU).range) Try.underlying24 rfl (sizeVcl v)) m6 ?_
    refine rgd_call 19 (some 36) (by kernel_rfl) rfl rfl (by kernel_rfl) 14 (#[.agg (pcs (.slice p L.length c) F), .agg (vf v)]) (by kernel_rfl) (T5.out y6 m6) ?_
    rintro _ y7 ⟨vG, KG, rfl, hG, eG, bG⟩
    have m7 : Below w6.drew.heap.size w6.drew y7 := thenBelow m6 bG
    obtain ⟨pG, cG, rfl, _, EG, _⟩ := hG.at
    refine ⟨_, rfl, m7, ?_⟩
    refine rgd_call 22 (some 39) (by kernel_rfl) rfl rfl (by kernel_rfl) 15 (#[.agg (pcs (.slice p L.length c) F), .agg (vf v)]) (by kernel_rfl) (T6.out y7 m7) ?_
    rintro _ y8 ⟨vH, KH, rfl, hH, sH, eH, bH⟩
    have m8 : Below w6.drew.heap.size w6.drew y8 := thenBelow m7 bH
    obtain ⟨pH, cH, rfl, _, EH, _⟩ := own_at hH (fun z hz => OKL.out y8 m8 z (sH z hz))
    refine ⟨_, rfl, m8, ?_⟩
    have lH : KH.length ≤ 1000 := by have h1 := congrArg List.length eH; simp only [evs, List.length_map] at h1; omega
    refine rgd_call 23 (some 40) (by kernel_rfl) rfl rfl (by kernel_rfl) 9 (#[.agg (pcs (.slice pG KG.length cG) fC), .agg (pcs (.slice pH KH.length cH) fC)]) (by kernel_rfl) (same_of _ HG.out pG cG KG pH cH KH fC y8 (EG.below bH) EH (eG.trans eH.symm) lH sH) ?_
    rintro _ y9 ⟨rfl, b9⟩
    have m9 : Below w6.drew.heap.size w6.drew y9 := thenBelow m8 b9
    refine ⟨_, rfl, m9, ?_⟩
    refine rgd_pure 24 (some 41) rfl rfl (.bool true) (by kernel_rfl) (by kernel_rfl) (by kernel_rfl) (fun _ _ _ _ h => h) (by kernel_rfl) (exec_pickT _ _ _ rfl _ (by kernel_rfl) (by kernel_rfl)) m9 ?_
    refine rgd_pure 25 (some 42) rfl rfl (.bool true) (by kernel_rfl) (by kernel_rfl) (by kernel_rfl) (fun _ _ _ _ h => h) (by kernel_rfl) (fun w => by kernel_rfl) m9 ?_
    refine rgd_call 26 (some 43) (by kernel_rfl) rfl rfl (by kernel_rfl) 8 (#[]) (by kernel_rfl) (awake13 y9) ?_
    rintro _ y10 ⟨rfl, b10⟩
    have m10 : Below w6.drew.heap.size w6.drew y10 := thenBelow m9 b10
    refine ⟨_, rfl, m10, ?_⟩
    refine rgd_pure 27 (some 44) rfl rfl (.bool true) (by kernel_rfl) (by kernel_rfl) (by kernel_rfl) (fun _ _ _ _ h => h) (by kernel_rfl) (exec_pickT _ _ _ rfl _ (by kernel_rfl) (by kernel_rfl)) m10 ?_
    refine rgd_pure 28 (some 8) rfl rfl (.bool true) (by kernel_rfl) (by kernel_rfl) (by kernel_rfl) (fun _ _ _ _ h => h) (by kernel_rfl) (fun w => by kernel_rfl) m10 ?_
    have KE : K { tmps := #[.agg (pcs (.slice p L.length c) F), .agg #[.int .i64 r, .int .i64 n, .int .i64 t, .int .i64 kd, .string dc, .int .i64 fl, .string tx, .slice gp gn.length gc], .int .i64 most, .agg (vf v), .pointer (some ⟨g4, 0, none⟩), .pointer (some ⟨g5, 0, none⟩), undef, .pointer (some ⟨g7, 0, none⟩), .bool true, .pointer (some ⟨g4, 0, none⟩), .slice p L.length c, .agg #[.int .i64 r, .int .i64 n, .int .i64 t, .int .i64 kd, .string dc, .int .i64 fl, .string tx, .slice gp gn.length gc], .slice (some ⟨w3.heap.size, 0, none⟩) 1 1, .slice (some ⟨w3.heap.size + 1, 0, none⟩) 2 2, .bool true, .bool false, undef, .agg (pcs (.slice p L.length c) F), .agg #[.int .i64 r, .int .i64 n, .int .i64 t, .int .i64 kd, .string dc, .int .i64 fl, .string tx, .slice gp gn.length gc], .agg (pcs (.slice pA KA.length cA) F), .agg (pcs (.slice p L.length c) F), .agg #[.int .i64 r, .int .i64 n, .int .i64 t, .int .i64 kd, .string dc, .int .i64 fl, .string tx, .slice gp gn.length gc], .agg (pcs (.slice pB KB.length cB) F), .bool true, .bool true, .agg (pcs (.slice p L.length c) F), .int .i64 most, .agg (pcs (.slice pC KC.length cC) fT), .agg (pcs (.slice p L.length c) F), .int .i64 most, .agg (pcs (.slice pD KD.length cD) fT), .bool true, .bool true, .bool true, .agg (pcs (.slice p L.length c) F), .agg (vf v), .agg (pcs (.slice pG KG.length cG) fC), .agg (pcs (.slice p L.length c) F), .agg (vf v), .agg (pcs (.slice pH KH.length cH) fC), .bool true, .bool true, .bool true, .bool true, .bool true], defers := [] } y10 := by
      refine hK _ _ ?_
      have BU := Lib.hid (thenBelow B7.out m10)
      clear hK T1 T2 T3 T4 T5 T6
      go_wp2
      go_ret
      exact ⟨rfl, BU.out⟩
    exact wpAnyH_done (by kernel_rfl) (Eq.mp (by kernel_rfl) KE) _
end Go.Proofs.Ytbdedemckmoidaa
