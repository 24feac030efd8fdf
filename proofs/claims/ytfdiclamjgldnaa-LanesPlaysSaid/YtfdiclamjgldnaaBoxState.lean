/- The state of a box: its block, its channel, the pointers in it. No number of a program stands here. -/
import Derived.Test.YtfdiclamjgldnaaBoxPlain
namespace Go.Proofs.Ytfdiclamjgldnaa
open Go Go.RowKit Go.Conc

structure Bx (w : World) (a C cap : Nat) (gs : List Nat) : Prop where
  line : w.cell? ⟨a, 0, none⟩ = some (.chan (some C))
  chan : ∃ s r, w.heap[C]? = some (.chan cap (ptrs gs).toArray false s r false)
  le : gs.length ≤ cap

theorem cell_ne_chan {w : World} {b o C cap s r : Nat} {buf : Array Value} {cl tm : Bool} {v : Value} (h : w.cell? ⟨b, o, none⟩ = some v) (hc : w.heap[C]? = some (.chan cap buf cl s r tm)) : b ≠ C := by
  rintro rfl
  simp [World.cell?, hc] at h
theorem Bx.lt {w : World} {a C cap : Nat} {gs : List Nat} (h : Bx w a C cap gs) : C < w.heap.size := by
  obtain ⟨_, _, hc⟩ := h.chan
  exact (Array.getElem?_eq_some_iff.1 hc).1
theorem Bx.alt {w : World} {a C cap : Nat} {gs : List Nat} (h : Bx w a C cap gs) : a < w.heap.size := World.block_lt_of_cell? w _ h.line
theorem Bx.ne {w : World} {a C cap : Nat} {gs : List Nat} (h : Bx w a C cap gs) {b o : Nat} {v : Value} (hv : w.cell? ⟨b, o, none⟩ = some v) : b ≠ C := by
  obtain ⟨_, _, hc⟩ := h.chan
  exact cell_ne_chan hv hc
theorem grown_setChan (w : World) (C cap : Nat) (buf : Array Value) (s r : Nat) : w.grownBy (w.setChan C cap buf false s r false) (some C) :=
  ⟨rfl, rfl, rfl, by simp [World.setChan], fun i hi hne => by simp only [World.setChan]; rw [Array.getElem?_setIfInBounds_ne (fun e => hne (by rw [e]))]⟩
/-- what lies in cells stays where the box's channel alone turns -/
theorem Bx.cell {w w' : World} {a C cap : Nat} {gs : List Nat} (h : Bx w a C cap gs) (hg : w.grownBy w' (some C)) {b o : Nat} {v : Value} (hv : w.cell? ⟨b, o, none⟩ = some v) : w'.cell? ⟨b, o, none⟩ = some v :=
  hg.cell hv (fun e => h.ne hv (Option.some.inj e))
theorem Bx.set {w : World} {a C cap : Nat} {gs : List Nat} (h : Bx w a C cap gs) (gs' : List Nat) (hl : gs'.length ≤ cap) (s r : Nat) : Bx (w.setChan C cap (ptrs gs').toArray false s r false) a C cap gs' :=
  ⟨h.cell (grown_setChan _ _ _ _ _ _) h.line, ⟨s, r, heap_setChan _ _ _ _ _ _ _ _ h.lt⟩, hl⟩
/-- a box that another one's turning leaves -/
theorem Bx.kept {w w' : World} {a C cap : Nat} {gs : List Nat} (h : Bx w a C cap gs) {row : Option Nat} (hg : w.grownBy w' row) (hC : some C ≠ row) (ha : some a ≠ row) : Bx w' a C cap gs := by
  obtain ⟨s, r, hc⟩ := h.chan
  exact ⟨hg.cell h.line ha, ⟨s, r, (hg.block C h.lt hC).trans hc⟩, h.le⟩
theorem Bx.below {w w' : World} {a C cap : Nat} {gs : List Nat} (h : Bx w a C cap gs) (hb : Below w.heap.size w w') : Bx w' a C cap gs := by
  obtain ⟨s, r, hc⟩ := h.chan
  exact ⟨(hb.cell (p := ⟨a, 0, none⟩) h.alt).trans h.line, ⟨s, r, (hb.block C h.lt).trans hc⟩, h.le⟩
theorem Bx.alloc {w : World} {a C cap : Nat} {gs : List Nat} (h : Bx w a C cap gs) (o : Obj) : Bx (w.alloc o) a C cap gs := h.below ((Below.refl _ _).alloc (Nat.le_refl _) o)

/-- two channels compared -/
theorem run_eql_chan {P : Program} (w : World) {t : TypeId} {dir : ChanDir} {e : TypeId} (hp : P.underlying t = some (.chan dir e)) (x y : Option Nat) : (binOp .eql t (.chan x) (.chan y)).run P w = .ok (.bool (x == y)) w := by
  have h : ∀ d : Nat, (Op.equalIn (d + 1) t (.chan x) (.chan y)).run P w = .ok (x == y) w := fun d => by
    simp [Op.equalIn, run_underlying hp]
  simp only [binOp]
  simp [Op.equal, Op.maxDepth, h 9999]
/-- a new box -/
def NewTo (w : World) (cap : Nat) (e : Ending) (w' : World) : Prop :=
  ∃ a C, e = .returned (.pointer (some ⟨a, 0, none⟩)) ∧ w.heap.size ≤ a ∧ w.heap.size ≤ C ∧ Bx w' a C cap [] ∧ Below w.heap.size w w'
theorem newTo_mk (w : World) (cap : Nat) {c : Nat} (hc : c = cap) (ty : TypeId) :
    NewTo w cap (.returned (.pointer (some ⟨w.heap.size + 1, 0, none⟩))) ((w.alloc (.chan c #[] false 0 0 false)).alloc (.cells #[.chan (some w.heap.size)] ty)) := by
  subst hc
  refine ⟨_, w.heap.size, rfl, by omega, Nat.le_refl _, ⟨?_, ⟨0, 0, ?_⟩, Nat.zero_le _⟩, ((Below.refl _ _).alloc (Nat.le_refl _) _).alloc (by simp) _⟩
  · rw [cell_of_row ((w.alloc (.chan c #[] false 0 0 false)).alloc (.cells #[.chan (some w.heap.size)] ty)) (w.heap.size + 1) 0 #[.chan (some w.heap.size)] ty (0, 0) (by
      have := heap_alloc_new (w.alloc (.chan c #[] false 0 0 false)) (.cells #[.chan (some w.heap.size)] ty)
      simpa using this)]
    rfl
  · rw [Below.heap_alloc _ _ _ (by simp), heap_alloc_new]; rfl
/-- one put in -/
def PutTo (w : World) (a C cap : Nat) (gs : List Nat) (v : Value) (e : Ending) (w' : World) : Prop :=
  e = .returned (.bool true) ∧ ∃ g, w.heap.size ≤ g ∧ w'.cell? ⟨g, 0, none⟩ = some v ∧ Bx w' a C cap (gs ++ [g]) ∧ w.grownBy w' (some C)
theorem grown_trans' {a b c : World} {C : Nat} (h : a.grownBy b (some C)) (k : b.grownBy c (some C)) : a.grownBy c (some C) :=
  ⟨k.os.trans h.os, k.tape.trans h.tape, k.output.trans h.output, Nat.le_trans h.size k.size, fun i hi hne => (k.block i (Nat.lt_of_lt_of_le hi h.size) hne).trans (h.block i hi hne)⟩
theorem grown_of_below {a w : World} (h : Below a.heap.size a w) (row : Option Nat) : a.grownBy w row := ⟨h.os, h.tape, h.output, h.size, fun i hi _ => h.block i hi⟩
theorem grown_under' {a b c : World} {row : Option Nat} (h : a.grownBy b row) (k : Below a.heap.size b c) : a.grownBy c row :=
  ⟨k.os.trans h.os, k.tape.trans h.tape, k.output.trans h.output, Nat.le_trans h.size k.size, fun i hi hne => (k.block i hi).trans (h.block i hi hne)⟩
theorem putTo_mk {w w' : World} {a C cap : Nat} {gs : List Nat} {v : Value} {ty : TypeId} (h : Bx w a C cap gs) (hb : Bx w' a C cap (gs ++ [w.heap.size])) (hg : (w.alloc (.cells #[v] ty)).grownBy w' (some C)) :
    PutTo w a C cap gs v (.returned (.bool true)) w' := by
  refine ⟨rfl, w.heap.size, Nat.le_refl _, ?_, hb, grown_trans' (World.grownBy_alloc w _ _) hg⟩
  have h1 : (w.alloc (.cells #[v] ty)).cell? ⟨w.heap.size, 0, none⟩ = some v := by
    rw [cell_of_row (w.alloc _) w.heap.size 0 _ ty (0, 0) (heap_alloc_new w _)]; rfl
  exact (h.alloc _).cell hg h1
/-- a box's changes, from its base on -/
theorem Bx.under {w w' : World} {a C cap B : Nat} {gs : List Nat} (_ : Bx w a C cap gs) (hg : w.grownBy w' (some C)) (hB : B ≤ C) (hw : B ≤ w.heap.size) : Below B w w' :=
  (Below.refl B w).grown hg hw (fun k hk => by have := Option.some.inj hk; omega)

/-- below B nothing but block C has turned -/
structure Part (B : Nat) (C : Option Nat) (w w' : World) : Prop where
  os : w'.os = w.os
  tape : w'.tape = w.tape
  output : w'.output = w.output
  size : w.heap.size ≤ w'.heap.size
  block : ∀ i, i < B → some i ≠ C → w'.heap[i]? = w.heap[i]?
theorem Part.refl (B : Nat) (C : Option Nat) (w : World) : Part B C w w := ⟨rfl, rfl, rfl, Nat.le_refl _, fun _ _ _ => rfl⟩
theorem Part.trans {B : Nat} {C : Option Nat} {a b c : World} (h : Part B C a b) (k : Part B C b c) : Part B C a c :=
  ⟨k.os.trans h.os, k.tape.trans h.tape, k.output.trans h.output, Nat.le_trans h.size k.size, fun i hi hne => (k.block i hi hne).trans (h.block i hi hne)⟩
theorem Part.of_grown {B : Nat} {C : Option Nat} {a b : World} (h : a.grownBy b C) (hB : B ≤ a.heap.size) : Part B C a b := ⟨h.os, h.tape, h.output, h.size, fun i hi hne => h.block i (by omega) hne⟩
theorem Part.of_below {B : Nat} {C : Option Nat} {a b : World} (h : Below B a b) : Part B C a b := ⟨h.os, h.tape, h.output, h.size, fun i hi _ => h.block i hi⟩
theorem Part.grown {C : Option Nat} {a b : World} (h : Part a.heap.size C a b) : a.grownBy b C := ⟨h.os, h.tape, h.output, h.size, h.block⟩
theorem Part.cell {B : Nat} {C : Option Nat} {a b : World} (h : Part B C a b) {x : Addr} {v : Value} (hv : a.cell? x = some v) (hB : x.block < B) (hne : some x.block ≠ C) : b.cell? x = some v :=
  (World.cell?_of_block (w := a) (h.block x.block hB hne)).trans hv
theorem Bx.part {w w' : World} {a C cap B : Nat} {gs : List Nat} (h : Bx w a C cap gs) {row : Option Nat} (hg : Part B row w w') (hC : C < B) (ha : a < B) (hC2 : some C ≠ row) (ha2 : some a ≠ row) : Bx w' a C cap gs := by
  obtain ⟨s, r, hc⟩ := h.chan
  exact ⟨hg.cell h.line ha ha2, ⟨s, r, (hg.block C hC hC2).trans hc⟩, h.le⟩
theorem Bx.belowB {w w' : World} {a C cap B : Nat} {gs : List Nat} (h : Bx w a C cap gs) (hb : Below B w w') (hC : C < B) (ha : a < B) : Bx w' a C cap gs :=
  h.part (Part.of_below (C := none) hb) hC ha (fun e => by cases e) (fun e => by cases e)

/-- what the pointers hold -/
def Vals {V : Type} (enc : V → Value) (w : World) : List Nat → List V → Prop
  | [], [] => True
  | g :: gs, v :: vs => w.cell? ⟨g, 0, none⟩ = some (enc v) ∧ Vals enc w gs vs
  | _, _ => False
theorem Vals.len {V : Type} {enc : V → Value} {w : World} : ∀ {gs : List Nat} {vs : List V}, Vals enc w gs vs → gs.length = vs.length
  | [], [], _ => rfl
  | _ :: _, _ :: _, h => by simp only [List.length_cons]; rw [Vals.len h.2]
  | [], _ :: _, h => h.elim
  | _ :: _, [], h => h.elim
theorem Vals.imp {V : Type} {enc : V → Value} {w w' : World} (hi : ∀ g v, w.cell? ⟨g, 0, none⟩ = some (enc v) → w'.cell? ⟨g, 0, none⟩ = some (enc v)) : ∀ {gs : List Nat} {vs : List V}, Vals enc w gs vs → Vals enc w' gs vs
  | [], [], _ => trivial
  | _ :: _, _ :: _, h => ⟨hi _ _ h.1, Vals.imp hi h.2⟩
  | [], _ :: _, h => h.elim
  | _ :: _, [], h => h.elim
theorem Vals.append {V : Type} {enc : V → Value} {w : World} {g2 : List Nat} {v2 : List V} (k : Vals enc w g2 v2) : ∀ {gs : List Nat} {vs : List V}, Vals enc w gs vs → Vals enc w (gs ++ g2) (vs ++ v2)
  | [], [], _ => k
  | _ :: _, _ :: _, h => ⟨h.1, Vals.append k h.2⟩
  | [], _ :: _, h => h.elim
  | _ :: _, [], h => h.elim
theorem Vals.below {V : Type} {enc : V → Value} {w w' : World} {gs : List Nat} {vs : List V} (h : Vals enc w gs vs) (hb : Below w.heap.size w w') : Vals enc w' gs vs :=
  h.imp fun g v hv => (hb.cell (p := ⟨g, 0, none⟩) (World.block_lt_of_cell? w _ hv)).trans hv
theorem Vals.cell {V : Type} {enc : V → Value} {w w' : World} {gs : List Nat} {vs : List V} (h : Vals enc w gs vs) {a C cap : Nat} {hs : List Nat} (hx : Bx w a C cap hs) (hg : w.grownBy w' (some C)) : Vals enc w' gs vs :=
  h.imp fun _ _ hv => hx.cell hg hv
theorem Vals.cut {V : Type} {enc : V → Value} {w : World} {g : Nat} {gs : List Nat} {vs : List V} (h : Vals enc w (g :: gs) vs) : ∃ v vs', vs = v :: vs' ∧ w.cell? ⟨g, 0, none⟩ = some (enc v) ∧ Vals enc w gs vs' := by
  cases vs with
  | nil => exact h.elim
  | cons v vs' => exact ⟨v, vs', rfl, h.1, h.2⟩
theorem Vals.part {V : Type} {enc : V → Value} {w w' : World} {B C : Nat} (hp : Part B (some C) w w') (hC : ∃ cap buf cl s r tm, w.heap[C]? = some (.chan cap buf cl s r tm)) : ∀ {gs : List Nat} {vs : List V}, Vals enc w gs vs → (∀ g ∈ gs, g < B) → Vals enc w' gs vs
  | [], [], _, _ => trivial
  | g :: gs, _ :: _, h, k => by
    obtain ⟨_, _, _, _, _, _, hc⟩ := hC
    exact ⟨hp.cell h.1 (k g (by simp)) (fun e => cell_ne_chan h.1 hc (Option.some.inj e)), Vals.part hp ⟨_, _, _, _, _, _, hc⟩ h.2 fun x hx => k x (by simp [hx])⟩
  | [], _ :: _, h, _ => h.elim
  | _ :: _, [], h, _ => h.elim
theorem Vals.at {V : Type} {enc : V → Value} {w : World} (d : V) : ∀ {gs : List Nat} {vs : List V} (_ : Vals enc w gs vs) (k : Nat) (_ : k < gs.length), w.cell? ⟨gs.getD k 0, 0, none⟩ = some (enc (vs.getD k d))
  | g :: gs, v :: vs, h, 0, _ => h.1
  | g :: gs, v :: vs, h, k + 1, hk => by
    have := Vals.at d h.2 k (by simpa using hk)
    simpa using this
  | [], [], _, k, hk => by simp at hk
  | [], _ :: _, h, _, _ => h.elim
  | _ :: _, [], h, _, _ => h.elim
theorem Vals.lt {V : Type} {enc : V → Value} {w : World} : ∀ {gs : List Nat} {vs : List V}, Vals enc w gs vs → ∀ g ∈ gs, g < w.heap.size
  | [], _, _, g, hg => by simp at hg
  | g0 :: gs, v :: vs, h, g, hg => by
    rcases List.mem_cons.1 hg with rfl | hg
    · exact World.block_lt_of_cell? w _ h.1
    · exact Vals.lt h.2 g hg
  | _ :: _, [], h, _, _ => h.elim
theorem rot_cut (gs : List Nat) (k : Nat) (h : k < gs.length) : gs.drop k = gs.getD k 0 :: gs.drop (k + 1) := by
  rw [List.drop_eq_getElem_cons h]; simp [List.getD, List.getElem?_eq_getElem h]
theorem rot_put (gs : List Nat) (k : Nat) (h : k < gs.length) : (gs.drop (k + 1) ++ gs.take k) ++ [gs.getD k 0] = gs.drop (k + 1) ++ gs.take (k + 1) := by
  rw [List.take_succ_eq_append_getElem h, List.append_assoc]; simp [List.getD, List.getElem?_eq_getElem h]
theorem take_next {V : Type} (vs : List V) (d : V) (k : Nat) (h : k < vs.length) : vs.take k ++ [vs.getD k d] = vs.take (k + 1) := by
  rw [List.take_succ_eq_append_getElem h]; simp [List.getD, List.getElem?_eq_getElem h]
theorem getD_mem (gs : List Nat) (k : Nat) (h : k < gs.length) : gs.getD k 0 ∈ gs := by
  have : gs.getD k 0 = gs[k] := by simp [List.getD, List.getElem?_eq_getElem h]
  rw [this]; exact List.getElem_mem _
end Go.Proofs.Ytfdiclamjgldnaa
