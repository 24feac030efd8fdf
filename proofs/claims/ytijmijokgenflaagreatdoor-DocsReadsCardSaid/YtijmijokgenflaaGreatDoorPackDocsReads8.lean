/- The statement DocsReads, proved for every input that its row reads: part 8 of 54. -/
import Derived.Test.YtijmijokgenflaaGreatDoorPackDocsReads7
import Derived.Shelf.SlicesE.Clone
import Derived.Test.YtijmijokgenflaaGreatDoorProg
import Derived.Deep.MidRow
/- slices.Clone of dots. -/
namespace Go.Proofs
open Go.Shelf
end Go.Proofs
namespace Go.Proofs.YtijmijokgenflaaGreatDoor
open Go Go.RowKit
set_option linter.unusedVariables false
end Go.Proofs.YtijmijokgenflaaGreatDoor
/- Events: how they lie; slices.Clone of them and of their dots. -/
namespace Go.Proofs
open Go.Shelf
end Go.Proofs
namespace Go.Proofs.YtijmijokgenflaaGreatDoor
open Go Go.RowKit
set_option linter.unusedVariables false

/-! Rows of things of k cells -/
section
variable {α : Type} {f : α → List Value} {k : Nat}
theorem flat_len (hk : ∀ x, (f x).length = k) : ∀ l : List α, (l.flatMap f).length = l.length * k
  | [] => by simp
  | x :: l => by
    rw [List.flatMap_cons, List.length_append, hk, flat_len hk l, List.length_cons, Nat.add_mul]; omega
theorem flat_get (hk : ∀ x, (f x).length = k) : ∀ (l : List α) (i : Nat) (hi : i < l.length) (j : Nat) (hj : j < k), (l.flatMap f)[i * k + j]? = (f l[i])[j]?
  | x :: l, 0, _, j, hj => by
    rw [List.flatMap_cons, Nat.zero_mul, Nat.zero_add, List.getElem?_append_left (by rw [hk]; exact hj)]; rfl
  | x :: l, i + 1, hi, j, hj => by
    rw [List.flatMap_cons, show (i + 1) * k + j = k + (i * k + j) from by rw [Nat.add_mul]; omega, List.getElem?_append_right (by rw [hk]; omega), hk, Nat.add_sub_cancel_left, flat_get hk l i (by simpa using hi) j hj]
    rfl
theorem flat_set (hk : ∀ x, (f x).length = k) (j : Nat) (hj : j < k) (u : Value) (y : α) : ∀ (l : List α) (i : Nat) (hi : i < l.length) (hy : f y = (f l[i]).set j u), (l.flatMap f).set (i * k + j) u = (l.set i y).flatMap f
  | x :: l, 0, _, hy => by
    have hy' : f y = (f x).set j u := hy
    rw [List.flatMap_cons, Nat.zero_mul, Nat.zero_add, List.set_append_left _ _ (by rw [hk]; exact hj), List.set_cons_zero, List.flatMap_cons, hy']
  | x :: l, i + 1, hi, hy => by
    have hy' : f y = (f (l[i]'(by simpa using hi))).set j u := hy
    rw [List.flatMap_cons, show (i + 1) * k + j = k + (i * k + j) from by rw [Nat.add_mul]; omega, List.set_append_right _ _ (by rw [hk]; omega), hk, Nat.add_sub_cancel_left, flat_set hk j hj u y l i (by simpa using hi) hy', List.set_cons_succ, List.flatMap_cons]
end

/-- an event -/
structure Ev where
  rep : Int
  n : Int
  time : Int
  kind : Int
  doc : ByteArray
  field : Int
  text : ByteArray
  gone : List Dt
/-- an event, and where its dots lie -/
structure EvP where
  e : Ev
  p : Option Addr
  c : Nat
def EvP.cells (x : EvP) : List Value := [.int .i64 x.e.rep, .int .i64 x.e.n, .int .i64 x.e.time, .int .i64 x.e.kind, .string x.e.doc, .int .i64 x.e.field, .string x.e.text, .slice x.p x.e.gone.length x.c]
theorem EvP.cells_len (x : EvP) : x.cells.length = 8 := rfl
theorem EvP.cells_one (x : EvP) : ∀ u ∈ x.cells, u.oneCell' = true := by
  intro u hu
  simp [EvP.cells] at hu
  rcases hu with rfl | rfl | rfl | rfl | rfl | rfl | rfl | rfl <;> rfl
def ecl (L : List EvP) : List Value := L.flatMap EvP.cells
theorem ecl_length (L : List EvP) : (ecl L).length = L.length * 8 := flat_len EvP.cells_len L
theorem ecl_append (a b : List EvP) : ecl (a ++ b) = ecl a ++ ecl b := by simp [ecl]
theorem ecl_one (L : List EvP) : ∀ u ∈ ecl L, u.oneCell' = true := by
  intro u hu
  obtain ⟨x, _, h⟩ := List.mem_flatMap.1 hu
  exact x.cells_one u h
/-- the dots that an event takes away lie where it says -/
def EvP.Ok (w : World) (x : EvP) : Prop := DRow w x.p x.e.gone ∧ (x.p = none → x.e.gone = [])
theorem EvP.Ok.below {w w' : World} {x : EvP} (h : x.Ok w) (hb : Below w.heap.size w w') : x.Ok w' := ⟨h.1.below hb, h.2⟩
/-- events that lie at p -/
structure EvsAt (w : World) (p : Option Addr) (L : List EvP) : Prop where
  row : L ≠ [] → ∃ b o, p = some ⟨b, o, none⟩ ∧ w.rangeAt b o (ecl L)
  ok : ∀ x ∈ L, x.Ok w
  none : p = none → L = []
theorem EvsAt.below {w w' : World} {p : Option Addr} {L : List EvP} (h : EvsAt w p L) (hb : Below w.heap.size w w') : EvsAt w' p L :=
  ⟨fun hn => by
    obtain ⟨b, o, rfl, hr⟩ := h.row hn
    exact ⟨b, o, rfl, range_below hr hb⟩, fun x hx => (h.ok x hx).below hb, h.none⟩
theorem EvsAt.at {w : World} {p : Option Addr} {L : List EvP} (h : EvsAt w p L) {i : Nat} (hi : i < L.length) :
    ∃ b o, p = some ⟨b, o, Option.none⟩ ∧ b < w.heap.size ∧ w.rangeAt b (o + i * 8) L[i].cells := by
  obtain ⟨b, o, rfl, hr⟩ := h.row (by intro e; subst e; simp at hi)
  have hr2 : w.rangeAt b (o + i * 8) L[i].cells := fun j u hu => by
    have hj : j < 8 := (List.getElem?_eq_some_iff.1 hu).1
    have := hr (i * 8 + j) u (by rw [show ecl L = L.flatMap EvP.cells from rfl, flat_get EvP.cells_len L i hi j hj]; exact hu)
    rw [Nat.add_assoc]; exact this
  exact ⟨b, o, rfl, World.block_lt_of_cell? w _ (hr2 0 _ rfl), hr2⟩

theorem infoEv : (Tryz.prog.info? 55).map (fun i => (i.zero, i.size, i.bytes)) = some (some (.agg #[.int .i64 0, .int .i64 0, .int .i64 0, .int .i64 0, .string ByteArray.empty, .int .i64 0, .string ByteArray.empty, .slice none 0 0]), 8, 96) := by kernel_rfl
end Go.Proofs.YtijmijokgenflaaGreatDoor
/- Which events are few. -/
namespace Go.Proofs.YtijmijokgenflaaGreatDoor
open Go Go.RowKit
set_option linter.unusedVariables false

theorem ev_cells {w : World} {b o : Nat} {x : EvP} (h : w.rangeAt b o x.cells) :
    w.cell? ⟨b, o, none⟩ = some (.int .i64 x.e.rep) ∧ w.cell? ⟨b, o + 1, none⟩ = some (.int .i64 x.e.n) ∧ w.cell? ⟨b, o + 2, none⟩ = some (.int .i64 x.e.time) ∧ w.cell? ⟨b, o + 3, none⟩ = some (.int .i64 x.e.kind) ∧
    w.cell? ⟨b, o + 4, none⟩ = some (.string x.e.doc) ∧ w.cell? ⟨b, o + 5, none⟩ = some (.int .i64 x.e.field) ∧ w.cell? ⟨b, o + 6, none⟩ = some (.string x.e.text) ∧ w.cell? ⟨b, o + 7, none⟩ = some (.slice x.p x.e.gone.length x.c) :=
  ⟨h 0 _ rfl, h 1 _ rfl, h 2 _ rfl, h 3 _ rfl, h 4 _ rfl, h 5 _ rfl, h 6 _ rfl, h 7 _ rfl⟩
/-- a list of events that came in -/
structure EvL where
  p : Option Addr
  c : Nat
  L : List EvP
def EvL.small (x : EvL) : Prop := x.L.length ≤ 80 ∧ ∀ y ∈ x.L, y.e.gone.length ≤ 130
def EvL.nil : EvL := ⟨none, 0, []⟩
def FewR (w : World) (K : List EvL) (e : Ending) (w' : World) : Prop := ∃ b, e = .returned (.bool b) ∧ (b = true → ∀ i, i < K.length → (K.getD i EvL.nil).small) ∧ Below w.heap.size w w'
end Go.Proofs.YtijmijokgenflaaGreatDoor
/- What goes of events, and what comes of it: plain. -/
namespace Go.Proofs.YtijmijokgenflaaGreatDoor
open Go
set_option linter.unusedVariables false

def Ev.isDrop (e : Ev) : Bool := decide (e.kind = 2)
def Ev.has (v : Nat → Int) (e : Ev) : Bool := hasB v e.rep e.n
def dropsOf (l : List Ev) : Nat := l.countP Ev.isDrop
def restOf' (l : List Ev) : Nat := l.countP fun e => !e.isDrop
theorem drops_rest : ∀ l : List Ev, dropsOf l + restOf' l = l.length
  | [] => rfl
  | e :: l => by
    have := drops_rest l
    unfold dropsOf restOf' at *
    rw [List.countP_cons, List.countP_cons, List.length_cons]
    cases e.isDrop <;> simp <;> omega
theorem drops_append (a b : List Ev) : dropsOf (a ++ b) = dropsOf a + dropsOf b := List.countP_append
theorem rest_append (a b : List Ev) : restOf' (a ++ b) = restOf' a + restOf' b := List.countP_append
theorem withF_le (f : Nat → Int) (r n : Int) (i : Nat) : f i ≤ withF f r n i := by
  unfold withF
  split
  · unfold vset
    split
    · rename_i h; subst h; omega
    · omega
  · omega

section
variable {σ : Type} (goes : σ → Ev → Bool) (next : σ → Ev → σ)
/-- one event more: what is known of the others, those that stay, and the floor -/
def wStep (x : σ × List Ev × (Nat → Int)) (e : Ev) : σ × List Ev × (Nat → Int) :=
  if goes x.1 e then (next x.1 e, x.2.1, withF x.2.2 e.rep e.n) else (next x.1 e, x.2.1 ++ [e], x.2.2)
def wRun (s : σ) (f : Nat → Int) (l : List Ev) : σ × List Ev × (Nat → Int) := l.foldl (wStep goes next) (s, [], f)
theorem wRun_snoc (s : σ) (f : Nat → Int) (l : List Ev) (e : Ev) : wRun goes next s f (l ++ [e]) = wStep goes next (wRun goes next s f l) e := by simp [wRun]
theorem wRun_mono : ∀ (l : List Ev) (x : σ × List Ev × (Nat → Int)) (i : Nat), x.2.2 i ≤ (l.foldl (wStep goes next) x).2.2 i
  | [], _, _ => Int.le_refl _
  | e :: l, x, i => by
    rw [List.foldl_cons]
    refine Int.le_trans ?_ (wRun_mono l _ i)
    unfold wStep
    split
    · exact withF_le _ _ _ _
    · exact Int.le_refl _
theorem wRun_floor (s : σ) (f : Nat → Int) (l : List Ev) : vle f (wRun goes next s f l).2.2 = true := (vle_iff _ _).2 fun i _ => wRun_mono goes next l _ i
theorem wRun_len : ∀ (l : List Ev) (x : σ × List Ev × (Nat → Int)), (l.foldl (wStep goes next) x).2.1.length ≤ x.2.1.length + l.length
  | [], _ => by simp
  | e :: l, x => by
    rw [List.foldl_cons]
    have := wRun_len l (wStep goes next x e)
    have h2 : (wStep goes next x e).2.1.length ≤ x.2.1.length + 1 := by
      unfold wStep
      split <;> simp
    rw [List.length_cons]
    omega
end

/-- Trim: of those that are no removal so many go -/
def trimGoes (a : Int) (e : Ev) : Bool := !e.isDrop && decide (0 < a)
def trimNext (a : Int) (e : Ev) : Int := if trimGoes a e then a - 1 else a
theorem trim_drops : ∀ (l : List Ev) (x : Int × List Ev × (Nat → Int)), dropsOf (l.foldl (wStep trimGoes trimNext) x).2.1 = dropsOf x.2.1 + dropsOf l
  | [], _ => by simp [dropsOf]
  | e :: l, x => by
    rw [List.foldl_cons, trim_drops l]
    have e1 : dropsOf (e :: l) = dropsOf [e] + dropsOf l := drops_append [e] l
    rw [e1]
    unfold wStep
    by_cases hg : trimGoes x.1 e = true
    · rw [if_pos hg]
      have : dropsOf [e] = 0 := by
        unfold trimGoes at hg
        simp only [Bool.and_eq_true, Bool.not_eq_true'] at hg
        simp [dropsOf, hg.1]
      simp only [this]; omega
    · rw [if_neg hg]
      simp only [drops_append]; omega
theorem trim_rest : ∀ (l : List Ev) (x : Int × List Ev × (Nat → Int)), (restOf' (l.foldl (wStep trimGoes trimNext) x).2.1 : Int) = restOf' x.2.1 + restOf' l - min (restOf' l : Int) (max x.1 0)
  | [], x => by simp [restOf']; omega
  | e :: l, x => by
    rw [List.foldl_cons, trim_rest l]
    have e1 : restOf' (e :: l) = restOf' [e] + restOf' l := rest_append [e] l
    rw [e1]
    cases hd : e.isDrop with
    | true =>
      have hr : restOf' [e] = 0 := by simp [restOf', hd]
      have hg : trimGoes x.1 e = false := by simp [trimGoes, hd]
      simp only [wStep, trimNext, hg, Bool.false_eq_true, if_false, rest_append, hr]
      omega
    | false =>
      have hr : restOf' [e] = 1 := by simp [restOf', hd]
      by_cases ha : 0 < x.1
      · have hg : trimGoes x.1 e = true := by simp [trimGoes, hd, ha]
        simp only [wStep, trimNext, hg, if_true, hr]
        omega
      · have hg : trimGoes x.1 e = false := by simp [trimGoes, ha]
        simp only [wStep, trimNext, hg, Bool.false_eq_true, if_false, rest_append, hr]
        omega
/-- what is behind Trim -/
def trimOf (l : List Ev) (f : Nat → Int) (most : Int) : Int × List Ev × (Nat → Int) := wRun trimGoes trimNext ((l.length : Int) - dropsOf l - max most 0) f l
theorem trimOf_drops (l : List Ev) (f : Nat → Int) (most : Int) : dropsOf (trimOf l f most).2.1 = dropsOf l := by
  unfold trimOf wRun
  rw [trim_drops]
  simp [dropsOf]
theorem trimOf_rest (l : List Ev) (f : Nat → Int) (most : Int) : ((trimOf l f most).2.1.length : Int) - dropsOf (trimOf l f most).2.1 ≤ max most 0 := by
  have h1 := drops_rest (trimOf l f most).2.1
  have h2 := drops_rest l
  have h3 := trim_rest l (((l.length : Int) - dropsOf l - max most 0), [], f)
  change ((restOf' (trimOf l f most).2.1 : Nat) : Int) = _ at h3
  have h4 : restOf' [] = 0 := rfl
  simp only [h4] at h3
  omega
/-- Collect: those that all have go -/
def collGoes (v : Nat → Int) (_ : Unit) (e : Ev) : Bool := e.has v
def collNext (_ : Unit) (_ : Ev) : Unit := ()
def collOf (l : List Ev) (f v : Nat → Int) : Unit × List Ev × (Nat → Int) := wRun (collGoes v) collNext () f l
def openOf (v : Nat → Int) (l : List Ev) : Nat := l.countP fun e => e.isDrop && !e.has v
theorem coll_drops (v : Nat → Int) : ∀ (l : List Ev) (x : Unit × List Ev × (Nat → Int)), dropsOf (l.foldl (wStep (collGoes v) collNext) x).2.1 = dropsOf x.2.1 + openOf v l
  | [], _ => by simp [dropsOf, openOf]
  | e :: l, x => by
    rw [List.foldl_cons, coll_drops v l]
    have e1 : openOf v (e :: l) = openOf v [e] + openOf v l := List.countP_append (l₁ := [e])
    rw [e1]
    unfold wStep
    cases hg : e.has v with
    | true =>
      have : openOf v [e] = 0 := by simp [openOf, hg]
      rw [if_pos (by simpa [collGoes] using hg)]
      simp only [this]; omega
    | false =>
      have : openOf v [e] = dropsOf [e] := by simp [openOf, dropsOf, hg]
      rw [if_neg (by simp [collGoes, hg])]
      simp only [drops_append, this]; omega
theorem collOf_drops (l : List Ev) (f v : Nat → Int) : dropsOf (collOf l f v).2.1 = openOf v l := by
  unfold collOf wRun
  rw [coll_drops]
  simp [dropsOf]
end Go.Proofs.YtijmijokgenflaaGreatDoor
