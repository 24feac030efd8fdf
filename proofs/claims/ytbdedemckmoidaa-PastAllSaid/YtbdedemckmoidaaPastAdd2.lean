/- past: Add of any past. -/
import Derived.Test.YtbdedemckmoidaaPastAdd
namespace Go.Proofs.Ytbdedemckmoidaa
open Go Go.RowKit
set_option linter.unusedVariables false

theorem sizeEv (x : EvP) : (Try.prog.info? 31).map (·.size) = some x.cells.length := by rw [EvP.cells_len]; kernel_rfl
theorem evs_one {w : World} {g : Nat} {x : EvP} (h : x.Ok w) (hg : w.rangeAt g 0 x.cells) : EvsAt w (some ⟨g, 0, none⟩) [x] :=
  ⟨fun _ => ⟨g, 0, rfl, by simpa [ecl] using hg⟩, fun y hy => by obtain rfl := List.mem_singleton.1 hy; exact h, fun e => by cases e⟩
theorem exec_pbuild {P : Program} {o : Oper} {a : Act} {w : World} (t : TypeId) (parts : Array (Nat × Operand)) (ho : o.op = .build t parts) (cs : Array Value) (hb : (Instr.build t (parts.map fun (i, x) => (i, a.eval x))).run P w = .ok (.agg cs) w) :
    (execOp a.eval o).run P w = .ok (.value (.agg cs)) w := by
  unfold execOp
  simp only [ho, Sem.run_bind, hb, Result.andThen_ok]
  rfl
theorem builtP2 (p : Option Addr) (n c : Nat) (f : Nat → Int) (w : World) : (Instr.build 26 #[(0, .slice p n c), (1, .agg (vf f))]).run Try.prog w = .ok (.agg (pcs (.slice p n c) f)) w := run_build w _ _ _ (by kernel_rfl)
set_option maxHeartbeats 20000000 in
set_option maxRecDepth 1000000 in
theorem add_is (p : Option Addr) (c : Nat) (L : List EvP) (f : Nat → Int) (x : EvP) (w : World) (h : EvsAt w p L) (ho : ∀ a, p = some a → ∃ b o, a = ⟨b, o, none⟩) (hn : L.length ≤ 400) (hg : ∀ x ∈ L, x.e.gone.length ≤ 1000)
    (hx : x.Ok w) (hxg : x.e.gone.length ≤ 1000) :
    Calls Try.prog 10 #[.agg (pcs (.slice p L.length c) f), .agg x.cells.toArray] w (PastR w (behindOf (evs L) [x.e]) f) := by
  have EV := Lib.hid h; have HG := Lib.hid hg; have HO := Lib.hid ho; have HX := Lib.hid hx; have HXG := Lib.hid hxg
  clear h hg ho hx hxg
  have SZ := Lib.hid (sizeEv x)
  go_enter Try.func10, Try.ntmps10
  go_wp2_with (refine wpList_gbox rfl _ rfl (pcs (.slice p L.length c) f) rfl ?_)
  intro g2 w1 lg2 hg2 hb1
  have B1 := Lib.hid hb1
  have P21 : Hid (Px w1 g2 (.slice p L.length c) f) := Lib.hid hg2
  clear hg2 hb1
  go_wp2_with (refine wpList_gbox rfl _ rfl x.cells.toArray rfl ?_)
  intro g3 w2 lg3 hg3 hb2
  have B2 := Lib.hid (thenBelow B1.out hb2)
  have P22 := Lib.hid (P21.out.later hb2)
  have E2 := Lib.hid hg3
  clear hg3 hb2 P21
  go_wp2_with (refine wpList_galloc _ zeroP rfl rfl ?_)
  intro g4 w3 lg4 hg4 hb3
  have B3 := Lib.hid (thenBelow B2.out hb3)
  have P23 := Lib.hid (P22.out.later hb3)
  have E3 := Lib.hid ((hb3.block g3 (Array.getElem?_eq_some_iff.1 E2.out).1).trans E2.out)
  have P43 : Hid (Px w3 g4 (.slice none 0 0) fun _ => 0) := Lib.hid hg4
  have hw4 : w.heap.size ≤ g4 := Nat.le_trans B2.out.size lg4
  have h43 : g4 < w3.heap.size := P43.out.lt
  have h34 : g3 < g4 := Nat.lt_of_lt_of_le (Array.getElem?_eq_some_iff.1 E2.out).1 lg4
  have h24 : g2 < g4 := Nat.lt_of_lt_of_le P22.out.lt lg4
  clear hg4 hb3 P22 E2
  have BH := Lib.hid (fun (V : World) (q : Option Addr) (d : Nat) (hV : Below w3.heap.size w3 V) (hq : EvsAt V q [x]) (hqo : ∀ a, q = some a → ∃ b o, a = ⟨b, o, none⟩) => behind_is p c L q d [x] V (EV.out.below (thenBelow B3.out hV)) HO.out hn HG.out hq hqo (by simp) (fun y hy => by obtain rfl := List.mem_singleton.1 hy; exact HXG.out))
  have OX := Lib.hid (fun V (hV : Below w3.heap.size w3 V) => HX.out.below (thenBelow B3.out hV))
  have hev : evs [x] = [x.e] := rfl
  rw [hev] at BH
  obtain ⟨be, hbe⟩ : ∃ be, behindOf (evs L) [x.e] = be := ⟨_, rfl⟩
  rw [hbe] at BH
  have HBE := Lib.hid hbe
  clear hbe hev HXG
  have SV : Hid (∀ V, Below w3.heap.size w3 V → Px V g2 (.slice p L.length c) f) := Lib.hid fun V hV => P23.out.later hV
  have SE : Hid (∀ V, Below w3.heap.size w3 V → V.rangeAt g3 0 x.cells) := Lib.hid fun V hV => by
    have h1 := (hV.block g3 (Array.getElem?_eq_some_iff.1 E3.out).1).trans E3.out
    simpa using range_of_block h1
  have S4 : Hid (∀ V, Below w3.heap.size w3 V → Px V g4 (.slice none 0 0) fun _ => 0) := Lib.hid fun V hV => P43.out.later hV
  obtain ⟨⟨r, n, t, kd, dc, fl, tx, gn⟩, gp, gc⟩ := x
  simp only [EvP.cells] at SZ SE E3 BH OX HBE ⊢
  go_wp2_with fail
  rename_i K hK
  have KK : ∀ (q : Option Addr) (d : Nat) (M : List EvP) (V : World), Px V g4 (.slice q M.length d) f → OwnE V w3.heap.size (.slice q M.length d) M → evs M = be → Below w.heap.size w V → K { tmps := #[.agg (pcs (.slice p L.length c) f), .agg #[.int .i64 r, .int .i64 n, .int .i64 t, .int .i64 kd, .string dc, .int .i64 fl, .string tx, .slice gp gn.length gc], .pointer (some ⟨g2, 0, none⟩), .pointer (some ⟨g3, 0, none⟩), .pointer (some ⟨g4, 0, none⟩), .pointer (some ⟨g2, 0, none⟩), .slice p L.length c, .agg #[.int .i64 r, .int .i64 n, .int .i64 t, .int .i64 kd, .string dc, .int .i64 fl, .string tx, .slice gp gn.length gc], .slice (some ⟨w3.heap.size, 0, none⟩) 1 1, .slice q M.length d, .pointer (some ⟨g2, 1, none⟩), .agg (vf f), .agg (pcs (.slice q M.length d) f)], defers := [] } V := by
    intro q d M V hpx hM hev hbV
    refine hK _ _ ?_
    have OM := Lib.hid hM; have HE := Lib.hid hev; have BV := Lib.hid hbV; have PV := Lib.hid hpx
    clear hK hM hev hbV hpx
    go_wp2
    exact past_ret rfl rfl rfl PV.out ⟨_, M, rfl, OM.out.base B3.out.size, by rw [HE.out, ← HBE.out], BV.out⟩
  have m00 : Below w3.heap.size w3 w3.drew := to_drew (Below.refl _ _)
  have m0 := And.intro (SV.out _ m00) (SE.out _ m00)
  refine rg_calm (by kernel_rfl) rfl (S := fun V => Px V g2 (.slice p L.length c) f ∧ V.rangeAt g3 0 [.int .i64 r, .int .i64 n, .int .i64 t, .int .i64 kd, .string dc, .int .i64 fl, .string tx, .slice gp gn.length gc]) ?_
  refine rgd_pure 0 (some 5) rfl rfl (.pointer (some ⟨g2, 0, none⟩)) (by kernel_rfl) (by kernel_rfl) (by kernel_rfl) (fun _ _ _ _ h => h) (by kernel_rfl) (fun w => by kernel_rfl) m0 ?_
  refine rgd_load 1 (some 6) rfl rfl (by kernel_rfl) (by kernel_rfl) (by kernel_rfl) (fun _ _ _ _ h => h) (by kernel_rfl) _ _ rfl Try.underlying22 rfl ⟨g2, 0, none⟩ (.slice p L.length c) (by kernel_rfl) (fun U hU => hU.1.slot) m0 ?_
  refine rgd_pureS 2 (some 7) rfl rfl (.agg #[.int .i64 r, .int .i64 n, .int .i64 t, .int .i64 kd, .string dc, .int .i64 fl, .string tx, .slice gp gn.length gc]) (by kernel_rfl) (by kernel_rfl) (by kernel_rfl) (fun _ _ _ _ h => h) (by kernel_rfl) (fun U hU => exec_gload 31 _ rfl g3 0 (by kernel_rfl) _ hU.2 Try.underlying31 rfl SZ.out) m0 ?_
  refine rgd_pure 5 (some 10) rfl rfl (.pointer (some ⟨g2, 1, none⟩)) (by kernel_rfl) (by kernel_rfl) (by kernel_rfl) (fun _ _ _ _ h => h) (by kernel_rfl) (fun w => by kernel_rfl) m0 ?_
  refine rgd_pureS 6 (some 11) rfl rfl (.agg (vf f)) (by kernel_rfl) (by kernel_rfl) (by kernel_rfl) (fun _ _ _ _ h => h) (by kernel_rfl) (fun U hU => exec_gload 24 _ rfl g2 1 (by kernel_rfl) _ hU.1.floor Try.underlying24 rfl (sizeVcl f)) m0 ?_
  have b4 := thenBelow m00 (below_alloc w3.drew (.cells #[.int .i64 r, .int .i64 n, .int .i64 t, .int .i64 kd, .string dc, .int .i64 fl, .string tx, .slice gp gn.length gc] 31))
  have n4 := heap_alloc_new w3.drew (.cells #[.int .i64 r, .int .i64 n, .int .i64 t, .int .i64 kd, .string dc, .int .i64 fl, .string tx, .slice gp gn.length gc] 31)
  refine rgd_run 3 (some 8) (by kernel_rfl) rfl rfl (by kernel_rfl) (.slice (some ⟨w3.heap.size, 0, none⟩) 1 1) (w3.drew.alloc (.cells #[.int .i64 r, .int .i64 n, .int .i64 t, .int .i64 kd, .string dc, .int .i64 fl, .string tx, .slice gp gn.length gc] 31)) (by kernel_rfl) ⟨SV.out _ b4, SE.out _ b4⟩ ?_
  refine rgd_call 4 (some 9) (by kernel_rfl) rfl rfl (by kernel_rfl) 28 (#[.slice p L.length c, .slice (some ⟨w3.heap.size, 0, none⟩) 1 1]) (by kernel_rfl) (BH.out _ _ _ b4 (evs_one (OX.out _ b4) (by simpa [EvP.cells] using range_of_block n4)) (fun a ha => by obtain rfl := Option.some.inj ha; exact ⟨_, _, rfl⟩)) ?_
  rintro e w5 ⟨v, M, rfl, hM, hev, hb5⟩
  obtain ⟨q, d, rfl, _, _, _⟩ := hM.at
  have b5 : Below w3.heap.size w3 w5 := thenBelow b4 hb5
  refine ⟨_, rfl, ⟨SV.out _ b5, SE.out _ b5⟩, ?_⟩
  refine rgd_run 7 (some 12) (by kernel_rfl) rfl rfl (by kernel_rfl) (.agg (pcs (.slice q M.length d) f)) w5 (exec_pbuild _ _ rfl _ (Eq.mp (by kernel_rfl) (builtP2 q M.length d f w5))) ⟨SV.out _ b5, SE.out _ b5⟩ ?_
  have p6 := (S4.out _ b5).setWhole (.slice q M.length d) f
  have g6 := grown_setCells g4 (pcs (.slice q M.length d) f).toList w5 0
  have o6 := own_type hM.row (S4.out _ b5) (by decide) g6
  have o6' : OwnE (w5.setCells g4 0 (pcs (.slice q M.length d) f).toList) w3.heap.size (.slice q M.length d) M := OwnE.base (B := (w3.drew.alloc (.cells #[.int .i64 r, .int .i64 n, .int .i64 t, .int .i64 kd, .string dc, .int .i64 fl, .string tx, .slice gp gn.length gc] 31)).heap.size) ⟨o6, fun y hy => own_type (hM.gone y hy) (S4.out _ b5) (by decide) g6⟩ b4.size
  have b6 := (thenBelow B3.out b5).trans (grown_below g6 (thenBelow B3.out b5).size hw4)
  refine rgd_do 8 none (by kernel_rfl) rfl rfl (by kernel_rfl) (w5.setCells g4 0 (pcs (.slice q M.length d) f).toList) (exec_pstore _ _ rfl g4 (by kernel_rfl) (.slice q M.length d) f (by kernel_rfl) ⟨_, _, _, rfl⟩ (S4.out _ b5)) ⟨(SV.out _ b5).kept g6 (by simp; omega), ?_⟩ ?_
  · have h1 := (g6.block g3 (Nat.lt_of_lt_of_le (Array.getElem?_eq_some_iff.1 E3.out).1 b5.size) (by simp; omega)).trans ((b5.block g3 (Array.getElem?_eq_some_iff.1 E3.out).1).trans E3.out)
    simpa using range_of_block h1
  · exact wpAnyH_done (by kernel_rfl) (Eq.mp (by kernel_rfl) (KK q d M _ p6 o6' hev b6)) _
end Go.Proofs.Ytbdedemckmoidaa
