/- The walk of DotsBack: what was written of a vector is read as it, and nothing behind it. -/
import Derived.Test.YtkkepfbckpmbhaaDotPut
import Derived.Test.YtkkepfbckpmbhaaDotRead
import Derived.Test.YtkkepfbckpmbhaaDotQuiet
namespace Go.Proofs.Ytkkepfbckpmbhaa
open Go Go.RowKit
set_option linter.unusedVariables false

section
variable {P : Program} {t e : TypeId} {ops : Array Oper} {listed : Array Bool} {fuel : Nat} {md : Region.Mode} {a : Act} {w : World} {S : World → Prop} {Q : Exit → Act → World → Prop} {o : Oper}
/-- a row of 64 read whole in a region that leaves its order open -/
theorem rg_vload (V : Vec P t e) (i : Nat) (d : Option Tmp) (hi : ops[i]? = some o) (hd : o.dst = d) (hs : Region.noSelect ops = true) (hf : Region.free md ops listed i = true) (hr : (Region.ready md ops listed).contains i = true)
    (hQ : ∀ c (a : Act) w v, Q (.panic c) (a.put d v) w → Q (.panic c) a w) (hw : Region.wanted o (yielded ops a.tmps) = true) (x : Operand) (ho : o.op = .load t x) (g : Nat) (ty : TypeId) (f : Nat → Int) (hx : a.eval x = .pointer (some ⟨g, 0, none⟩)) (hc : ∀ w, S w → Row w g ty f)
    (hS : S w) (h : wpAnyH P md ops Q S fuel (listed.setIfInBounds i true) (a.put d (.agg (vf f))) w) : wpAnyH P md ops Q S (fuel + 1) listed a w := by
  subst hd
  exact wpAnyH_take (v := .agg (vf f)) hi hs hf hr (fun c a w => hQ c a w _) (Or.inl ⟨hw, fun w hw => by
    unfold execOp
    simp only [ho, hx]
    exact run_value_of (V.loadAt (hc w hw))⟩) hS h
theorem exec_veqT (V : Vec P t e) (yt : TypeId) (x y : Operand) (ho : o.op = .binOp .eql t x y yt) (hm : P.eqGuardType P.depth t = false) (f g : Nat → Int) (hfg : veq f g = true) (hx : a.eval x = .agg (vf f)) (hy : a.eval y = .agg (vf g)) (w : World) :
    (execOp a.eval o).run P w = .ok (.value (.bool true)) w := by
  unfold execOp
  simp only [ho, hx, hy]
  exact run_value_of (by rw [Sem.run_bind, run_eqGuard_agg (hm := hm), Result.andThen_ok, V.eql f g w, hfg])
end

set_option maxHeartbeats 4000000 in
set_option maxRecDepth 100000 in
theorem dotsBack_walk (f : Nat → Int) (p : Option Addr) (c : Nat) (b : List UInt8) (W : World) (hf : Wide f) (h : Came W p c b) : Calls Try.prog 7 #[.agg (vf f), .slice p b.length c] W (Yes W) := by
  clear hf
  have hre := h.reach
  have hle := h.le
  have GB := Lib.hid (show Given W p c b from ⟨h.lies, h.le, h.none⟩)
  have GI := fun W => good_is f W
  have VL := Lib.hid (vbytes_len f)
  clear h
  by_cases hg : goodB f = true
  · simp only [hg] at GI
    have VB := Lib.hid (vec_back f hg b)
    clear hg
    go_enter Try.func7, Try.ntmps7
    go_wp2_with (refine wpList_vbox vecI rfl _ rfl f rfl ?_)
    intro ga w1 la ra hb1
    have B1 := Lib.hid hb1; have RA1 := Lib.hid ra
    clear hb1 ra
    go_wp2_with (refine wpList_vload vecI rfl _ rfl ga rfl _ f RA1.out ?_)
    go_wp2_with fail
    refine (GI w1).mono ?_
    rintro e w2 ⟨rfl, hb2⟩
    have B2 := Lib.hid (thenBelow B1.out hb2); have RA2 := Lib.hid (RA1.out.later hb2)
    clear hb2 GI
    go_wp2_with (refine wpList_vload vecI rfl _ rfl ga rfl _ f RA2.out ?_)
    go_wp2_with fail
    refine (vput_is none 0 [] f w2 ⟨Lies.nil _ _, Nat.le_refl _, fun _ => ⟨rfl, rfl⟩⟩ (by simp)).mono ?_
    rintro e w3 ⟨v3, rfl, ho3, hb3⟩
    have ho3 : w3.ownsRow w2.heap.size 5 1 v3 (vbytes f).length (bys (vbytes f)) := ho3
    have B3 := Lib.hid (thenBelow B2.out hb3); have RA3 := Lib.hid (RA2.out.later hb3); have O3 := Lib.hid ho3
    have hz3 := hb3.size
    have hb32 := hb3
    have hz23 := B2.out.size
    clear hb3 ho3
    go_wp2_with (at_builtin; refine wpList_bytes isU8 _ rfl _ _ rfl w2.heap.size _ (vbytes f) _ rfl O3.out p b.length c b rfl (GB.out.below B3.out).lies rfl (fun e => ⟨by rw [(GB.out.none e).1]; rfl, (GB.out.none e).2⟩) (by have := VL.out; omega) hz3 ?_)
    intro v4 w4 ho4 hb4
    have B4 := Lib.hid (B3.out.trans (hb4.mono hz23))
    have RA4 := Lib.hid (RA2.out.later (hb32.trans hb4))
    have hL : (vbytes f ++ b).length ≤ 140737488355328 := by have := VL.out; rw [List.length_append]; omega
    generalize vbytes f ++ b = M at VB ho4 hL
    obtain ⟨p4, c4, rfl, hg4⟩ := own_given ho4
    have HL := Lib.hid hL
    have RD := Lib.hid (read_all p4 c4 M w4 hg4 hL)
    clear hb4 hb32 ho4 hg4 O3 hL
    go_wp2_with fail
    refine RD.out.mono ?_
    rintro e w5 ⟨B, rfl, hB, hrd, hb5⟩
    have hB2 := hB
    have b0 := (thenBelow B4.out hb5).drew
    have R0 : Row w5.drew ga 25 f := (RA4.out.later hb5).later (Below.refl _ _).drew
    have D0 : RdA w5.drew B (M, 0) := hrd.below (Below.refl _ _).drew
    have hgaB : ga < B := Nat.lt_of_lt_of_le RA4.out.lt hB
    have hWB : W.heap.size ≤ B := Nat.le_trans la (by omega)
    have hL := HL.out
    clear RD hrd hb5 B4 RA4 HL
    go_wp2_with fail
    refine rg_start (n := 20) (S := fun w' => Row w' ga 25 f) (by kernel_rfl) rfl R0 ?_
    generalize w5.drew = w0 at b0 R0 D0 ⊢
    refine rgd_pure 0 (some 21) rfl rfl (.pointer (some ⟨B, 0, none⟩)) (by kernel_rfl) (by kernel_rfl) (by kernel_rfl) (fun _ _ _ _ h => h) (by kernel_rfl) (fun _ => by kernel_rfl) R0 ?_
    refine rg_vload vecI 2 (some 23) rfl rfl (by kernel_rfl) (by kernel_rfl) (by kernel_rfl) (fun _ _ _ _ h => h) (by kernel_rfl) _ rfl ga _ f (by kernel_rfl) (fun _ h => h) R0 ?_
    refine rg_call 1 (by kernel_rfl) rfl (by kernel_rfl) 33 #[.pointer (some ⟨B, 0, none⟩)] (by kernel_rfl) (vread_is B (M, 0) w0 D0 hL) ?_
    rintro e w5 ⟨rfl, hd5, hg5⟩
    rw [VB.out.1] at hd5
    have R5 : Row w5 ga 25 f := R0.kept hg5 (fun e => by have e2 : ga = B := Option.some.inj e; omega)
    have b5 : Below W.heap.size W w5 := b0.grown hg5 b0.size (fun k hk => by have e2 : k = B := (Option.some.inj hk).symm; omega)
    have hq : veq (outV (M, 0)) f = true := veq_of VB.out.2
    generalize outV (M, 0) = o5 at hq ⊢
    refine ⟨_, rfl, R5, ?_⟩
    refine rgd_pure 3 (some 24) rfl rfl (.bool true) (by kernel_rfl) (by kernel_rfl) (by kernel_rfl) (fun _ _ _ _ h => h) (by kernel_rfl) (exec_veqT vecI _ _ _ rfl (by kernel_rfl) o5 f hq (by kernel_rfl) (by kernel_rfl)) R5 ?_
    refine rgd_pure 4 (some 25) rfl rfl (.bool true) (by kernel_rfl) (by kernel_rfl) (by kernel_rfl) (fun _ _ _ _ h => h) (by kernel_rfl) (fun _ => by kernel_rfl) R5 ?_
    refine rgd_pure 5 (some 26) rfl rfl (.pointer (some ⟨B, 0, none⟩)) (by kernel_rfl) (by kernel_rfl) (by kernel_rfl) (fun _ _ _ _ h => h) (by kernel_rfl) (fun _ => by kernel_rfl) R5 ?_
    refine rg_call 6 (by kernel_rfl) rfl (by kernel_rfl) 35 #[.pointer (some ⟨B, 0, none⟩)] (by kernel_rfl) (err_any B (b, 0) w5 hd5) ?_
    rintro e w' ⟨rfl, rfl⟩
    refine ⟨_, rfl, R5, ?_⟩
    refine rgd_pure 7 (some 28) rfl rfl (.bool true) (by kernel_rfl) (by kernel_rfl) (by kernel_rfl) (fun _ _ _ _ h => h) (by kernel_rfl) (exec_eqlI _ _ _ _ rfl 0 (by kernel_rfl) (by kernel_rfl)) R5 ?_
    refine rgd_pure 8 (some 29) rfl rfl (.bool true) (by kernel_rfl) (by kernel_rfl) (by kernel_rfl) (fun _ _ _ _ h => h) (by kernel_rfl) (fun _ => by kernel_rfl) R5 ?_
    refine rgd_pure 9 (some 30) rfl rfl (.bool true) (by kernel_rfl) (by kernel_rfl) (by kernel_rfl) (fun _ _ _ _ h => h) (by kernel_rfl) (fun _ => by kernel_rfl) R5 ?_
    refine rgd_pure 10 (some 31) rfl rfl (.pointer (some ⟨B, 0, none⟩)) (by kernel_rfl) (by kernel_rfl) (by kernel_rfl) (fun _ _ _ _ h => h) (by kernel_rfl) (fun _ => by kernel_rfl) R5 ?_
    refine rgd_pure 12 (some 33) rfl rfl (.slice p b.length c) (by kernel_rfl) (by kernel_rfl) (by kernel_rfl) (fun _ _ _ _ h => h) (by kernel_rfl) (fun _ => by kernel_rfl) R5 ?_
    refine rgd_pure 13 (some 34) rfl rfl (.int .i64 (b.length : Int)) (by kernel_rfl) (by kernel_rfl) (by kernel_rfl) (fun _ _ _ _ h => h) (by kernel_rfl) (fun _ => by kernel_rfl) R5 ?_
    refine rg_call 11 (by kernel_rfl) rfl (by kernel_rfl) 36 #[.pointer (some ⟨B, 0, none⟩)] (by kernel_rfl) (left_any B (b, 0) w5 hd5) ?_
    rintro e w' ⟨rfl, rfl⟩
    refine ⟨_, rfl, R5, ?_⟩
    refine rgd_pure 14 (some 35) rfl rfl (.bool true) (by kernel_rfl) (by kernel_rfl) (by kernel_rfl) (fun _ _ _ _ h => h) (by kernel_rfl) (exec_eqlI _ _ _ _ rfl (b.length : Int) (by kernel_rfl) (by kernel_rfl)) R5 ?_
    refine rgd_pure 15 (some 36) rfl rfl (.bool true) (by kernel_rfl) (by kernel_rfl) (by kernel_rfl) (fun _ _ _ _ h => h) (by kernel_rfl) (fun _ => by kernel_rfl) R5 ?_
    refine rgd_pure 16 (some 37) rfl rfl (.bool true) (by kernel_rfl) (by kernel_rfl) (by kernel_rfl) (fun _ _ _ _ h => h) (by kernel_rfl) (fun _ => by kernel_rfl) R5 ?_
    refine rg_call 17 (by kernel_rfl) rfl (by kernel_rfl) 19 #[] (by kernel_rfl) (awake8 w5) ?_
    rintro e w6 ⟨rfl, hb6⟩
    have b6 := Lib.hid (thenBelow b5 hb6)
    refine ⟨_, rfl, R5.later hb6, ?_⟩
    refine rgd_pure 18 (some 39) rfl rfl (.bool true) (by kernel_rfl) (by kernel_rfl) (by kernel_rfl) (fun _ _ _ _ h => h) (by kernel_rfl) (fun _ => by kernel_rfl) (R5.later hb6) ?_
    refine rgd_pure 19 (some 4) rfl rfl (.bool true) (by kernel_rfl) (by kernel_rfl) (by kernel_rfl) (fun _ _ _ _ h => h) (by kernel_rfl) (fun _ => by kernel_rfl) (R5.later hb6) ?_
    refine wpAnyH_done (by kernel_rfl) ?_ _
    refine ‹∀ (a : Act) (w : World), Code.wp Try.prog Code.ret (bodyPost Try.prog Try.f7 (Yes W)) a w → _› _ _ ?_
    refine wp_ret ?_
    exact bodyPost_ret (v := .bool true) (by kernel_rfl) (by kernel_rfl) ⟨rfl, b6.out⟩
  · have hg2 : goodB f = false := by simpa using hg
    simp only [hg2] at GI
    have hv : vbytes f = [] := by unfold vbytes; rw [if_neg hg]
    have HV := Lib.hid hv
    clear hg hg2 hv
    go_enter Try.func7, Try.ntmps7
    go_wp2_with (refine wpList_vbox vecI rfl _ rfl f rfl ?_)
    intro ga w1 la ra hb1
    have B1 := Lib.hid hb1; have RA1 := Lib.hid ra
    clear hb1 ra
    go_wp2_with (refine wpList_vload vecI rfl _ rfl ga rfl _ f RA1.out ?_)
    go_wp2_with fail
    refine (GI w1).mono ?_
    rintro e w2 ⟨rfl, hb2⟩
    have B2 := Lib.hid (thenBelow B1.out hb2); have RA2 := Lib.hid (RA1.out.later hb2)
    clear hb2 GI
    have PP := vput_is none 0 [] f w2 ⟨Lies.nil _ _, Nat.le_refl _, fun _ => ⟨rfl, rfl⟩⟩ (by simp)
    rw [HV.out] at PP
    have P2 := Lib.hid PP
    clear PP
    go_wp2_with (refine wpList_vload vecI rfl _ rfl ga rfl _ f RA2.out ?_)
    go_wp2_with fail
    refine P2.out.mono ?_
    intro e w3 hr
    obtain ⟨p3, c3, rfl, hg3, hb3⟩ := hr.given
    have B3 := Lib.hid (thenBelow B2.out hb3)
    clear hr hb3 hg3 P2
    go_wp2_with fail
    refine (awake8 w3).mono ?_
    rintro e w4 ⟨rfl, hb4⟩
    have B4 := Lib.hid (thenBelow B3.out hb4)
    clear hb4
    go_wp2
    go_ret
    exact ⟨rfl, B4.out⟩
end Go.Proofs.Ytkkepfbckpmbhaa
