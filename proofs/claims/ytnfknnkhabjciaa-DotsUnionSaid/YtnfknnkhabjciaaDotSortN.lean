/- slices.SortFunc, Contains, Equal of any dots. -/
import Derived.Test.YtnfknnkhabjciaaDotRow
import Derived.Laws.StructEq
namespace Go.Proofs.Ytnfknnkhabjciaa
open Go Go.RowKit
set_option linter.unusedVariables false

theorem grown_sortWorld (w : World) (g m : Nat) (d : Array Dt) (os : Array Obj) : w.grownBy (sortWorldK dvs 2 w g 0 m d os) (some g) := by
  refine ⟨rfl, rfl, rfl, size_sortWorldK_c dvs 2 w g 0 m d os, fun k hk hne => ?_⟩
  have hne' : ¬ g = k := fun e => hne (by rw [e])
  show ((w.heap.modify g _) ++ os)[k]? = _
  rw [Array.getElem?_append_left (by simpa using hk), Array.getElem?_modify, if_neg hne']
theorem flat_get (l : List Dt) (j : Nat) (hj : j < l.length * 2) : ∃ u, (dcl l)[j]? = some u ∧ (Sort.flatK dvs 2 l.toArray)[j]! = u := by
  obtain ⟨u, hu⟩ : ∃ u, (dcl l)[j]? = some u := ⟨_, List.getElem?_eq_getElem (by rw [dcl_length]; exact hj)⟩
  refine ⟨u, hu, ?_⟩
  rw [Sort.get_flatK dvs 2 l.toArray j (by simpa using hj)]
  have hi : j / 2 < l.length := by omega
  have e1 : l.toArray[j / 2]! = l[j / 2] := by simp [hi]
  rw [e1]
  obtain ⟨g1, g2⟩ := dcl_get l (j / 2) hi
  rcases Nat.mod_two_eq_zero_or_one j with e | e
  · rw [show j / 2 * 2 = j from by omega, hu] at g1
    rw [e, Option.some.inj g1]; rfl
  · rw [show j / 2 * 2 + 1 = j from by omega, hu] at g2
    rw [e, Option.some.inj g2]; rfl
theorem OwnD.holds {w : World} {g : Nat} {l : List Dt} (h : OwnD w g l) : Sort.HoldsK dvs 2 w g 0 l.toArray := by
  intro j hj
  rw [Sort.size_flatK] at hj
  have hj' : j < l.length * 2 := by simpa using hj
  obtain ⟨u, h1, h2⟩ := flat_get l j hj'
  refine ⟨?_, by rw [Nat.zero_add]; exact h.free j hj'⟩
  rw [h2]; exact h.range j u h1
theorem OwnD.of_holds {w : World} {g : Nat} {l : List Dt} (h : Sort.HoldsK dvs 2 w g 0 l.toArray) (hlt : g < w.heap.size) : OwnD w g l := by
  refine ⟨fun j u hu => ?_, fun j hj => ?_, hlt⟩
  · have hj : j < l.length * 2 := by rw [← dcl_length]; exact (List.getElem?_eq_some_iff.1 hu).1
    obtain ⟨v, h1, h2⟩ := flat_get l j hj
    rw [hu] at h1
    obtain rfl := Option.some.inj h1
    have := (h j (by rw [Sort.size_flatK]; simpa using hj)).1
    rw [h2] at this; exact this
  · have := (h j (by rw [Sort.size_flatK]; simpa using hj)).2
    rwa [Nat.zero_add] at this

/-- put in order -/
def Ordered (l S : List Dt) : Prop := S.Perm l ∧ S.Pairwise fun a b => ltD b a = false
theorem sortD_is (g cap : Nat) (l : List Dt) (w : World) (h : OwnD w g l) (hlen : l.length ≤ 10000) :
    Calls Try.prog 19 #[.slice (some ⟨g, 0, none⟩) l.length cap, .func (.func 20) #[] #[]] w
      fun e w' => e = .returned (.tuple #[]) ∧ ∃ S, Ordered l S ∧ OwnD w' g S ∧ w.grownBy w' (some g) := by
  have eg : ∀ args w, (callFunc 20 args).run Try.prog w = .ok (.enter 20 args) w := enters_of Try.func20 (by kernel_rfl) rfl
  have hcmp : CmpLays Try.prog 20 #[] dvs 2 cfD g 0 l.toArray.size w := fun m os dk hs x y => dotCompareG x y _
  have hc := AnyQ.slices_SortFunc_total Try.laysSort 2 Try.isAgg28 Try.sizeOf28 dvs (fun _ => rfl) (fun x v hv => by simp [dvs] at hv; rcases hv with rfl | rfl <;> rfl) cfD swoD 20 #[] g 0 cap l.toArray w eg hcmp h.holds h.lt (by simp; omega)
    (fun x y h1 h2 => by rw [ltOf_cfD] at h1 h2; exact ltD_or x y h1 h2)
  have hsz : l.toArray.size = l.length := by simp
  rw [hsz] at hc
  refine hc.mono ?_
  rintro e w' ⟨rfl, n, os, rfl⟩
  refine ⟨rfl, l.mergeSort (fun x y => !(ltOf cfD) y x), ⟨List.mergeSort_perm _ _, ?_⟩, ?_, grown_sortWorld w g n _ os⟩
  · have := List.pairwise_mergeSort (le := fun x y => !(ltOf cfD) y x)
      (fun a b c h1 h2 => by
        simp only [Bool.not_eq_true', ltOf_cfD] at *
        rw [← Bool.not_eq_true, ltD_iff] at *; omega)
      (fun a b => by
        simp only [ltOf_cfD]
        cases h1 : ltD b a with
        | false => rfl
        | true =>
          cases h2 : ltD a b with
          | false => rfl
          | true => have := ltD_trans h1 h2; rw [ltD_irrefl] at this; cases this) l
    refine this.imp fun {a b} hab => ?_
    simpa [ltOf_cfD] using hab
  · exact OwnD.of_holds (holdsK_sortWorldK_c dvs 2 w g 0 l.toArray (l.mergeSort fun x y => !(ltOf cfD) y x).toArray n os h.holds h.lt (by simp)) (Nat.lt_of_lt_of_le h.lt (size_sortWorldK_c dvs 2 w g 0 n _ os))
theorem sortNone_is (p : Option Addr) (cap : Nat) (fv : Value) (w : World) : Calls Try.prog 19 #[.slice p 0 cap, fv] w fun e w' => e = .returned (.tuple #[]) ∧ w = w' :=
  (AnyF.slices_SortFunc_none Try.laysSort p cap fv w).mono fun e w' ⟨h1, h2⟩ => ⟨h1, h2.symm⟩

def eqD (x y : Dt) : Bool := x.1 == y.1 && x.2 == y.2
theorem eqD_iff (x y : Dt) : eqD x y = true ↔ x = y := by
  simp only [eqD, Bool.and_eq_true, beq_iff_eq]
  exact ⟨fun h => Prod.ext h.1 h.2, fun h => by subst h; exact ⟨rfl, rfl⟩⟩
theorem runEqD (x y : Dt) (w : World) : (Op.equalIn 10000 28 (.agg (dvs x).toArray) (.agg (dvs y).toArray)).run Try.prog w = .ok (eqD x y) w := by
  have u3 := Try.underlying3
  have a3 := Try.isAgg3
  have z3 := Try.sizeOf3
  have hS : Try.prog.underlying 28 = some (.struct (Try.prog.fieldsOf 28)) := by kernel_rfl
  have hp : Try.prog.stoodInHeld 28 = false := by kernel_rfl
  simp only [dvs]
  rw [show (10000 : Nat) = 9999 + 1 from rfl, run_equalIn_agg w 9999 28 _ _ hS hp]
  simp only [Program.fieldsOf, Try.underlying28]
  go_simp
  unfold eqD
  by_cases h1 : x.fst = y.fst <;> by_cases h2 : x.snd = y.snd <;> simp [h1, h2]
theorem eqAtD : EqlAt Try.prog 28 (fun x => .agg (dvs x).toArray) eqD := by
  refine ⟨fun x y w => ?_, GuardAt.agg _ (by kernel_rfl)⟩
  rw [run_eql_struct, runEqD]; rfl
theorem neqAtD : NeqAt Try.prog 28 (fun x => .agg (dvs x).toArray) eqD := by
  refine ⟨fun x y w => ?_, GuardAt.agg _ (by kernel_rfl)⟩
  rw [run_neq_struct, runEqD]; rfl

set_option maxHeartbeats 1000000 in
theorem indexNone_is (p : Option Addr) (c : Nat) (d : Dt) (w : World) :
    Calls Try.prog 36 #[.slice p 0 c, .agg (dvs d).toArray] w fun e w' => e = .returned (.int .i64 (-1)) ∧ Below w.heap.size w w' := by
  obtain ⟨r, n⟩ := d
  simp only [dvs]
  go_enter Try.func36, Try.ntmps36
  go_wp2
  refine wp_loop_rounds 1 ?_
  rw [rounds_succ]
  go_wp2
  go_ret
  exact ⟨rfl, below_alloc _ _⟩
set_option maxHeartbeats 1000000 in
theorem containsNone_is (p : Option Addr) (c : Nat) (d : Dt) (w : World) :
    Calls Try.prog 26 #[.slice p 0 c, .agg (dvs d).toArray] w fun e w' => e = .returned (.bool false) ∧ Below w.heap.size w w' := by
  have HI := Lib.hid (fun W => indexNone_is p c d W)
  obtain ⟨r, n⟩ := d
  simp only [dvs] at HI ⊢
  go_enter Try.func26, Try.ntmps26
  go_wp2_with fail
  refine (HI.out _).mono ?_
  rintro e w' ⟨rfl, hb⟩
  have B := Lib.hid (thenBelow (below_alloc w (.cells #[.int .i64 r, .int .i64 n] 28)) hb)
  clear HI hb
  go_wp2_with fail
  go_ret
  exact ⟨rfl, B.out⟩
/-- slices.Contains -/
theorem containsD_is (p : Option Addr) (c : Nat) (l : List Dt) (d : Dt) (w : World) (h : DRow w p l) (hlen : l.length ≤ 10000) :
    Calls Try.prog 26 #[.slice p l.length c, .agg (dvs d).toArray] w fun e w' => e = .returned (.bool (l.contains d)) ∧ Below w.heap.size w w' := by
  by_cases hn : l = []
  · subst hn; exact containsNone_is p c d w
  · obtain ⟨b, o, rfl, hr⟩ := h hn
    refine (AnyQ.slices_Contains Try.laysContains 2 Try.isAgg28 Try.sizeOf28 dvs (fun _ => rfl) eqD eqAtD b o l.length c l d w (Nat.le_refl _) (by omega) ?_).mono fun e w' ⟨h1, h2⟩ => ⟨?_, h2⟩
    · intro j hj i v hv
      have e1 : l[j]! = l[j] := by simp [hj]
      rw [e1] at hv
      obtain ⟨g1, g2⟩ := dcl_get l j hj
      match i, hv with
      | 0, hv => simp [dvs] at hv; subst hv; exact hr _ _ g1
      | 1, hv => simp [dvs] at hv; subst hv; rw [Nat.add_assoc]; exact hr _ _ g2
      | i + 2, hv => simp [dvs] at hv
    · rw [h1, List.take_of_length_le (Nat.le_refl _)]
      congr 2
      rw [Bool.eq_iff_iff, List.any_eq_true, List.contains_iff_mem]
      constructor
      · rintro ⟨x, hx, he⟩; rw [(eqD_iff d x).1 he]; exact hx
      · intro hx; exact ⟨d, hx, (eqD_iff d d).2 rfl⟩
end Go.Proofs.Ytnfknnkhabjciaa
