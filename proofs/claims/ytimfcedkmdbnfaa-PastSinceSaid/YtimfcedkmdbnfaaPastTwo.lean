/- Two pasts made side by side. -/
import Derived.Test.YtimfcedkmdbnfaaPastTrim2
namespace Go.Proofs.Ytimfcedkmdbnfaa
open Go Go.RowKit
set_option linter.unusedVariables false

theorem allocPast {o : Oper} {a : Act} (ho : o.op = .alloc 26) (w : World) : (execOp a.eval o).run Try.prog w = .ok (.value (.pointer (some ⟨w.heap.size, 0, none⟩))) (w.alloc (.cells (pcs (.slice none 0 0) fun _ => 0) 26)) := by
  unfold execOp
  simp only [ho, Instr.alloc, Sem.run_bind, zeroP, Result.andThen_ok]
  rfl
theorem Px.setWhole {w : World} {g : Nat} {v : Value} {f : Nat → Int} (h : Px w g v f) (v' : Value) (f' : Nat → Int) : Px (w.setCells g 0 (pcs v' f').toList) g v' f' := by
  unfold Px
  rw [heap_setCells _ _ _ _ h]
  have e : setL (pcs v f) 0 (pcs v' f').toList = pcs v' f' := by
    apply Array.ext_getElem?
    intro i
    rw [setL_get _ _ _ (by rw [Array.length_toList, pcs_size, pcs_size]; omega)]
    split
    · simp
    · rename_i h1
      rw [Array.length_toList, pcs_size] at h1
      rw [Array.getElem?_eq_none (by rw [pcs_size]; omega), Array.getElem?_eq_none (by rw [pcs_size]; omega)]
  rw [e]
theorem exec_pstore {o : Oper} {a : Act} {w : World} (x y : Operand) (ho : o.op = .store 26 x y) (g : Nat) (hx : a.eval x = .pointer (some ⟨g, 0, none⟩)) (v' : Value) (f' : Nat → Int) (hy : a.eval y = .agg (pcs v' f')) (hv : ∃ p n c, v' = .slice p n c) {v : Value} {f : Nat → Int} (hp : Px w g v f) :
    (execOp a.eval o).run Try.prog w = .ok .skip (w.setCells g 0 (pcs v' f').toList) := by
  have ht : w.there g 0 (pcs v' f').size := fun j hj => by
    rw [pcs_size] at hj
    rw [Nat.zero_add]
    refine ⟨?_, hp.free _⟩
    rw [cell_of_row w g j _ _ _ hp, Array.getElem?_eq_getElem (by rw [pcs_size]; exact hj)]
    rfl
  unfold execOp
  simp only [ho, hx, hy, Sem.run_bind, run_storeAt_mid w g 0 26 (pcs v' f') ht (sizeP _ _) (Array.all_eq_true_iff_forall_mem.2 (fun u hu => pcs_oneV f' hv u (by simpa using hu))), Result.andThen_ok]
  rfl
theorem OwnE.base {w : World} {B B' : Nat} {v : Value} {L : List EvP} (h : OwnE w B v L) (hB : B' ≤ B) : OwnE w B' v L := ⟨own_base h.row hB, fun x hx => own_base (h.gone x hx) hB⟩
theorem own_type {w w' : World} {B G : Nat} {e : TypeId} {k n : Nat} {v : Value} {xs : List Value} (h : w.ownsRow B e k v n xs) {cs : Array Value} {T : TypeId} {m : Nat × Nat} (hG : w.heap[G]? = some (.cells cs T m)) (hne : T ≠ e) (hg : w.grownBy w' (some G)) : w'.ownsRow B e k v n xs :=
  own_blk h fun b hb => by
    obtain ⟨h1, h2⟩ := h.lt b hb
    refine hg.block b h2 (fun e1 => ?_)
    have e1 := Option.some.inj e1
    subst e1
    rcases h.2 with ⟨rfl, _⟩ | ⟨g, cap, cur, rfl, _, hgg, _⟩
    · simp [Value.ownBlock] at hb
    · have : g = b := by simpa [Value.ownBlock] using hb
      subst this
      rw [hG] at hgg
      injection hgg with hgg
      injection hgg with _ e3 _
      exact hne e3
theorem OwnE.setTwo {w w1 w2 : World} {B gA gB : Nat} {v vA vB vC : Value} {fA fB fC : Nat → Int} {L : List EvP} (h : OwnE w B v L) (hA : Px w gA vA fA) (hB : Px w gB vB fB) (hB1 : Px w1 gB vC fC) (q1 : w.grownBy w1 (some gA)) (q2 : w1.grownBy w2 (some gB)) : OwnE w2 B v L :=
  ⟨own_type (own_type h.row hA (by decide) q1) hB1 (by decide) q2, fun x hx => own_type (own_type (h.gone x hx) hA (by decide) q1) hB1 (by decide) q2⟩
theorem open_take (v : Nat → Int) (L : List EvP) (j : Nat) (h : j < L.length) : openOf v (evs (L.take (j + 1))) = openOf v (evs (L.take j)) + (if (L[j].e.isDrop && !L[j].e.has v) = true then 1 else 0) := by
  rw [List.take_add_one, List.getElem?_eq_getElem h, evs, List.map_append]
  unfold openOf
  rw [List.countP_append]
  simp [evs, List.countP_cons]
theorem keptLen_trim (L : List EvP) (F : Nat → Int) (most : Int) : (trimOf (evs L) F most).2.1.length ≤ L.length := by
  have h := wRun_len trimGoes trimNext (evs L) (((evs L).length : Int) - dropsOf (evs L) - max most 0, [], F)
  have h2 : (evs L).length = L.length := by simp [evs]
  change (trimOf (evs L) F most).2.1.length ≤ 0 + _ at h
  omega
theorem keptLen_coll (L : List EvP) (F v : Nat → Int) : (collOf (evs L) F v).2.1.length ≤ L.length := by
  have h := wRun_len (collGoes v) collNext (evs L) ((), [], F)
  have h2 : (evs L).length = L.length := by simp [evs]
  change (collOf (evs L) F v).2.1.length ≤ 0 + _ at h
  omega
theorem exec_leqT {P : Program} {o : Oper} {a : Act} (t yt : TypeId) (x y : Operand) (ho : o.op = .binOp .leq t x y yt) (X Y : Int) (h : X ≤ Y) (hx : a.eval x = .int .i64 X) (hy : a.eval y = .int .i64 Y) (w : World) :
    (execOp a.eval o).run P w = .ok (.value (.bool true)) w := by
  unfold execOp
  simp only [ho, hx, hy]
  have hd : decide (X ≤ Y) = true := decide_eq_true h
  go_simp
/-- two pasts that calls made, each in a block of its own -/
structure TwoPasts (W : World) (kT : List Ev) (fT : Nat → Int) (kC : List Ev) (fC : Nat → Int) (gA gB : Nat) (vA vB : Value) (KA KB : List EvP) (w : World) : Prop where
  a : Px w gA vA fT
  b : Px w gB vB fC
  ea : OwnE w W.heap.size vA KA
  eb : OwnE w W.heap.size vB KB
  ka : evs KA = kT
  kb : evs KB = kC
  below : Below W.heap.size W w
section
variable {P : Program} {ops : Array Oper} {o : Oper} {a : Act} {w : World} {Q : Exit → Act → World → Prop} {S : World → Prop} {md : Region.Mode} {fuel : Nat} {listed : Array Bool}
theorem rgd_three {o2 o3 : Oper} (i j k : Nat) (d d2 d3 : Option Tmp) (hr : Region.ready md ops listed = [i, j, k]) (hi : ops[i]? = some o) (hd : o.dst = d) (hw : Region.wanted o (yielded ops a.tmps) = true) (f : FuncId) (args : Array Value) {Post : Ending → World → Prop} (hrun : (execOp a.eval o).run P w = .ok (.enter f args) w) (hc : Calls P f args w Post)
    (hj : ops[j]? = some o2) (hd2 : o2.dst = d2) (hw2 : Region.wanted o2 (yielded ops a.tmps) = true) (v2 : Value) (w2 : World) (hrun2 : (execOp a.eval o2).run P w = .ok (.value v2) w2) (hS2 : S w2)
    (hk : ops[k]? = some o3) (hd3 : o3.dst = d3) (hw3 : Region.wanted o3 (yielded ops a.tmps) = true) (v3 : Value) (w3 : World) (hrun3 : (execOp a.eval o3).run P w = .ok (.value v3) w3) (hS3 : S w3)
    (h : ∀ e w', Post e w' → ∃ v, e = .returned v ∧ S w' ∧ wpAnyH P md ops Q S fuel (listed.setIfInBounds i true) (a.put d v) w')
    (h2 : wpAnyH P md ops Q S fuel (listed.setIfInBounds j true) (a.put d2 v2) w2) (h3 : wpAnyH P md ops Q S fuel (listed.setIfInBounds k true) (a.put d3 v3) w3) : wpAnyH P md ops Q S (fuel + 1) listed a w := by
  subst hd; subst hd2; subst hd3; exact rg_three i j k hr hi hw f args hrun hc hj hw2 v2 w2 hrun2 hS2 hk hw3 v3 w3 hrun3 hS3 h h2 h3
end
end Go.Proofs.Ytimfcedkmdbnfaa
