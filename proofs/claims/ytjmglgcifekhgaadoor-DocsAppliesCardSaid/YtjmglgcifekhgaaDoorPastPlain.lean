/- What goes of events, and what comes of it: plain. -/
import Derived.Test.YtjmglgcifekhgaaDoorPastMem
namespace Go.Proofs.YtjmglgcifekhgaaDoor
open Go
set_option linter.unusedVariables false

def Ev.isDrop (e : Ev) : Bool := decide (e.kind = 2)
def Ev.has (v : Nat → Int) (e : Ev) : Bool := hasB v e.rep e.n
def dropsOf (l : List Ev) : Nat := l.countP Ev.isDrop
def restOf' (l : List Ev) : Nat := l.countP fun e => !e.isDrop
theorem drops_rest : ∀ l : List Ev, dropsOf l + restOf' l = l.length
  | [] => rfl
  | e :: l => by
    have := drops_rest l
    unfold dropsOf restOf' at *
    rw [List.countP_cons, List.countP_cons, List.length_cons]
    cases e.isDrop <;> simp <;> omega
theorem drops_append (a b : List Ev) : dropsOf (a ++ b) = dropsOf a + dropsOf b := List.countP_append
theorem rest_append (a b : List Ev) : restOf' (a ++ b) = restOf' a + restOf' b := List.countP_append
theorem withF_le (f : Nat → Int) (r n : Int) (i : Nat) : f i ≤ withF f r n i := by
  unfold withF
  split
  · unfold vset
    split
    · rename_i h; subst h; omega
    · omega
  · omega

section
variable {σ : Type} (goes : σ → Ev → Bool) (next : σ → Ev → σ)
/-- one event more: what is known of the others, those that stay, and the floor -/
def wStep (x : σ × List Ev × (Nat → Int)) (e : Ev) : σ × List Ev × (Nat → Int) :=
  if goes x.1 e then (next x.1 e, x.2.1, withF x.2.2 e.rep e.n) else (next x.1 e, x.2.1 ++ [e], x.2.2)
def wRun (s : σ) (f : Nat → Int) (l : List Ev) : σ × List Ev × (Nat → Int) := l.foldl (wStep goes next) (s, [], f)
theorem wRun_snoc (s : σ) (f : Nat → Int) (l : List Ev) (e : Ev) : wRun goes next s f (l ++ [e]) = wStep goes next (wRun goes next s f l) e := by simp [wRun]
theorem wRun_mono : ∀ (l : List Ev) (x : σ × List Ev × (Nat → Int)) (i : Nat), x.2.2 i ≤ (l.foldl (wStep goes next) x).2.2 i
  | [], _, _ => Int.le_refl _
  | e :: l, x, i => by
    rw [List.foldl_cons]
    refine Int.le_trans ?_ (wRun_mono l _ i)
    unfold wStep
    split
    · exact withF_le _ _ _ _
    · exact Int.le_refl _
theorem wRun_floor (s : σ) (f : Nat → Int) (l : List Ev) : vle f (wRun goes next s f l).2.2 = true := (vle_iff _ _).2 fun i _ => wRun_mono goes next l _ i
theorem wRun_len : ∀ (l : List Ev) (x : σ × List Ev × (Nat → Int)), (l.foldl (wStep goes next) x).2.1.length ≤ x.2.1.length + l.length
  | [], _ => by simp
  | e :: l, x => by
    rw [List.foldl_cons]
    have := wRun_len l (wStep goes next x e)
    have h2 : (wStep goes next x e).2.1.length ≤ x.2.1.length + 1 := by
      unfold wStep
      split <;> simp
    rw [List.length_cons]
    omega
end

/-- Trim: of those that are no removal so many go -/
def trimGoes (a : Int) (e : Ev) : Bool := !e.isDrop && decide (0 < a)
def trimNext (a : Int) (e : Ev) : Int := if trimGoes a e then a - 1 else a
theorem trim_drops : ∀ (l : List Ev) (x : Int × List Ev × (Nat → Int)), dropsOf (l.foldl (wStep trimGoes trimNext) x).2.1 = dropsOf x.2.1 + dropsOf l
  | [], _ => by simp [dropsOf]
  | e :: l, x => by
    rw [List.foldl_cons, trim_drops l]
    have e1 : dropsOf (e :: l) = dropsOf [e] + dropsOf l := drops_append [e] l
    rw [e1]
    unfold wStep
    by_cases hg : trimGoes x.1 e = true
    · rw [if_pos hg]
      have : dropsOf [e] = 0 := by
        unfold trimGoes at hg
        simp only [Bool.and_eq_true, Bool.not_eq_true'] at hg
        simp [dropsOf, hg.1]
      simp only [this]; omega
    · rw [if_neg hg]
      simp only [drops_append]; omega
theorem trim_rest : ∀ (l : List Ev) (x : Int × List Ev × (Nat → Int)), (restOf' (l.foldl (wStep trimGoes trimNext) x).2.1 : Int) = restOf' x.2.1 + restOf' l - min (restOf' l : Int) (max x.1 0)
  | [], x => by simp [restOf']; omega
  | e :: l, x => by
    rw [List.foldl_cons, trim_rest l]
    have e1 : restOf' (e :: l) = restOf' [e] + restOf' l := rest_append [e] l
    rw [e1]
    cases hd : e.isDrop with
    | true =>
      have hr : restOf' [e] = 0 := by simp [restOf', hd]
      have hg : trimGoes x.1 e = false := by simp [trimGoes, hd]
      simp only [wStep, trimNext, hg, Bool.false_eq_true, if_false, rest_append, hr]
      omega
    | false =>
      have hr : restOf' [e] = 1 := by simp [restOf', hd]
      by_cases ha : 0 < x.1
      · have hg : trimGoes x.1 e = true := by simp [trimGoes, hd, ha]
        simp only [wStep, trimNext, hg, if_true, hr]
        omega
      · have hg : trimGoes x.1 e = false := by simp [trimGoes, ha]
        simp only [wStep, trimNext, hg, Bool.false_eq_true, if_false, rest_append, hr]
        omega
/-- what is behind Trim -/
def trimOf (l : List Ev) (f : Nat → Int) (most : Int) : Int × List Ev × (Nat → Int) := wRun trimGoes trimNext ((l.length : Int) - dropsOf l - max most 0) f l
theorem trimOf_drops (l : List Ev) (f : Nat → Int) (most : Int) : dropsOf (trimOf l f most).2.1 = dropsOf l := by
  unfold trimOf wRun
  rw [trim_drops]
  simp [dropsOf]
theorem trimOf_rest (l : List Ev) (f : Nat → Int) (most : Int) : ((trimOf l f most).2.1.length : Int) - dropsOf (trimOf l f most).2.1 ≤ max most 0 := by
  have h1 := drops_rest (trimOf l f most).2.1
  have h2 := drops_rest l
  have h3 := trim_rest l (((l.length : Int) - dropsOf l - max most 0), [], f)
  change ((restOf' (trimOf l f most).2.1 : Nat) : Int) = _ at h3
  have h4 : restOf' [] = 0 := rfl
  simp only [h4] at h3
  omega
/-- Collect: those that all have go -/
def collGoes (v : Nat → Int) (_ : Unit) (e : Ev) : Bool := e.has v
def collNext (_ : Unit) (_ : Ev) : Unit := ()
def collOf (l : List Ev) (f v : Nat → Int) : Unit × List Ev × (Nat → Int) := wRun (collGoes v) collNext () f l
def openOf (v : Nat → Int) (l : List Ev) : Nat := l.countP fun e => e.isDrop && !e.has v
theorem coll_drops (v : Nat → Int) : ∀ (l : List Ev) (x : Unit × List Ev × (Nat → Int)), dropsOf (l.foldl (wStep (collGoes v) collNext) x).2.1 = dropsOf x.2.1 + openOf v l
  | [], _ => by simp [dropsOf, openOf]
  | e :: l, x => by
    rw [List.foldl_cons, coll_drops v l]
    have e1 : openOf v (e :: l) = openOf v [e] + openOf v l := List.countP_append (l₁ := [e])
    rw [e1]
    unfold wStep
    cases hg : e.has v with
    | true =>
      have : openOf v [e] = 0 := by simp [openOf, hg]
      rw [if_pos (by simpa [collGoes] using hg)]
      simp only [this]; omega
    | false =>
      have : openOf v [e] = dropsOf [e] := by simp [openOf, dropsOf, hg]
      rw [if_neg (by simp [collGoes, hg])]
      simp only [drops_append, this]; omega
theorem collOf_drops (l : List Ev) (f v : Nat → Int) : dropsOf (collOf l f v).2.1 = openOf v l := by
  unfold collOf wRun
  rw [coll_drops]
  simp [dropsOf]
end Go.Proofs.YtjmglgcifekhgaaDoor
