/- The state of lanes: the object, its map, each way's box and what lies in it. -/
import Derived.Test.YtfdiclamjgldnaaBoxIsP
import Derived.Test.YtfdiclamjgldnaaLnMap
namespace Go.Proofs.Ytfdiclamjgldnaa
open Go Go.RowKit Go.Conc
set_option linter.unusedVariables false

/-- a message: its bytes, which one is turned, by what -/
structure Mg where
  whole : List UInt8
  at_ : Int
  by_ : UInt8
def Mg.Ok (x : Mg) : Prop := x.whole.length ≤ 1000 ∧ -9223372036854775808 ≤ x.at_ ∧ x.at_ ≤ 9223372036854775807
def mgObj (v : Value) (x : Mg) : Obj := .cells #[v, .int .i64 x.at_, .int .u8 (x.by_.toNat : Int)] 67 (0, 0)
def MsgAt (w : World) (B m : Nat) (x : Mg) : Prop :=
  B ≤ m ∧ ∃ v, w.heap[m]? = some (mgObj v x) ∧ w.ownsRow B 5 1 v x.whole.length (bys x.whole) ∧ x.Ok
def MsgsAt (w : World) (B : Nat) : List Nat → List Mg → Prop
  | [], [] => True
  | m :: ms, x :: xs => MsgAt w B m x ∧ MsgsAt w B ms xs
  | _, _ => False
def mptrs (ms : List Nat) : List (Option Addr) := ms.map fun m => some ⟨m, 0, none⟩
theorem mptrs_len (ms : List Nat) : (mptrs ms).length = ms.length := by simp [mptrs]
theorem mptrs_get (ms : List Nat) (k : Nat) (h : k < ms.length) : (mptrs ms).getD k none = some ⟨ms.getD k 0, 0, none⟩ := by simp [mptrs, List.getD, h]

/-- a block that nothing of a way's lies in, but for its channel and its messages -/
def Off (w : World) (k : Nat) : Prop :=
  (∀ p, w.cell? ⟨k, 0, none⟩ ≠ some (.pointer p)) ∧ (∀ c, w.cell? ⟨k, 0, none⟩ ≠ some (.chan c)) ∧ ∀ cur m, w.heap[k]? ≠ some (.cells cur 5 m)
theorem off_chan {w : World} {C cap s r : Nat} {buf : Array Value} {cl tm : Bool} (h : w.heap[C]? = some (.chan cap buf cl s r tm)) : Off w C :=
  ⟨fun p hp => by simp [World.cell?, h] at hp, fun p hp => by simp [World.cell?, h] at hp, fun cur m e => by rw [h] at e; cases e⟩
theorem off_map {w : World} {M c : Nat} {es : Array MapEntry} (h : w.heap[M]? = some (.map es c)) : Off w M :=
  ⟨fun p hp => by simp [World.cell?, h] at hp, fun p hp => by simp [World.cell?, h] at hp, fun cur m e => by rw [h] at e; cases e⟩
theorem off_obj {w : World} {A : Nat} {m : Option Nat} {r : List Value} (h : w.heap[A]? = some (.cells (.map m :: r).toArray 49 (0, 0))) : Off w A := by
  have c : w.cell? ⟨A, 0, none⟩ = some (.map m) := by rw [cell_of_row w A 0 _ _ _ h]; rfl
  refine ⟨fun p hp => ?_, fun p hp => ?_, fun cur m e => ?_⟩
  · rw [c] at hp; cases hp
  · rw [c] at hp; cases hp
  · rw [h] at e; injection e with e; injection e with _ e2 _; revert e2; decide
theorem off_msg {w : World} {B m : Nat} {x : Mg} (h : MsgAt w B m x) : Off w m := by
  obtain ⟨_, v, hm, ho, _⟩ := h
  have c : w.cell? ⟨m, 0, none⟩ = some v := by rw [cell_of_row w m 0 _ _ _ hm]; rfl
  obtain ⟨_, p, cap, rfl, _⟩ := own_lies ho
  refine ⟨fun p hp => ?_, fun p hp => ?_, fun cur m e => ?_⟩
  · rw [c] at hp; cases hp
  · rw [c] at hp; cases hp
  · rw [hm] at e; injection e with e; injection e with _ e2 _; revert e2; decide

theorem MsgAt.kept {w w' : World} {B m : Nat} {x : Mg} (h : MsgAt w B m x) {row : Option Nat} (hg : w.grownBy w' row) (hm : some m ≠ row) (hr : ∀ k, row = some k → Off w k) : MsgAt w' B m x := by
  obtain ⟨hb, v, ho, hrow, hok⟩ := h
  refine ⟨hb, v, (hg.block m (Array.getElem?_eq_some_iff.1 ho).1 hm).trans ho, hrow.kept hg ?_, hok⟩
  rcases hrow.2 with ⟨rfl, _⟩ | ⟨g, cap, cur, rfl, _, hgc, _⟩
  · exact .inl rfl
  · exact .inr fun e => (hr g e.symm).2.2 cur _ hgc
theorem MsgsAt.kept {w w' : World} {B : Nat} {row : Option Nat} (hg : w.grownBy w' row) (hr : ∀ k, row = some k → Off w k) : ∀ {ms : List Nat} {xs : List Mg}, MsgsAt w B ms xs → (∀ m ∈ ms, some m ≠ row) → MsgsAt w' B ms xs
  | [], [], _, _ => trivial
  | m :: ms, x :: xs, h, k => ⟨h.1.kept hg (k m (by simp)) hr, MsgsAt.kept hg hr h.2 fun y hy => k y (by simp [hy])⟩
  | [], _ :: _, h, _ => h.elim
  | _ :: _, [], h, _ => h.elim
theorem MsgsAt.len {w : World} {B : Nat} : ∀ {ms : List Nat} {xs : List Mg}, MsgsAt w B ms xs → ms.length = xs.length
  | [], [], _ => rfl
  | _ :: _, _ :: _, h => by simp only [List.length_cons]; rw [MsgsAt.len h.2]
  | [], _ :: _, h => h.elim
  | _ :: _, [], h => h.elim
theorem MsgsAt.append {w : World} {B m : Nat} {x : Mg} (k : MsgAt w B m x) : ∀ {ms : List Nat} {xs : List Mg}, MsgsAt w B ms xs → MsgsAt w B (ms ++ [m]) (xs ++ [x])
  | [], [], _ => ⟨k, trivial⟩
  | _ :: _, _ :: _, h => ⟨h.1, MsgsAt.append k h.2⟩
  | [], _ :: _, h => h.elim
  | _ :: _, [], h => h.elim
theorem MsgsAt.erase {w : World} {B : Nat} : ∀ {ms : List Nat} {xs : List Mg} (_ : MsgsAt w B ms xs) (k : Nat), MsgsAt w B (ms.eraseIdx k) (xs.eraseIdx k)
  | [], [], _, _ => trivial
  | _ :: _, _ :: _, h, 0 => h.2
  | _ :: _, _ :: _, h, k + 1 => ⟨h.1, MsgsAt.erase h.2 k⟩
  | [], _ :: _, h, _ => h.elim
  | _ :: _, [], h, _ => h.elim
theorem MsgsAt.at {w : World} {B : Nat} (d : Mg) : ∀ {ms : List Nat} {xs : List Mg} (_ : MsgsAt w B ms xs) (k : Nat) (_ : k < ms.length), MsgAt w B (ms.getD k 0) (xs.getD k d)
  | m :: ms, x :: xs, h, 0, _ => h.1
  | m :: ms, x :: xs, h, k + 1, hk => by
    have := MsgsAt.at d h.2 k (by simpa using hk)
    simpa using this
  | [], [], _, k, hk => by simp at hk
  | [], _ :: _, h, _, _ => h.elim
  | _ :: _, [], h, _, _ => h.elim
theorem MsgsAt.lt {w : World} {B : Nat} : ∀ {ms : List Nat} {xs : List Mg}, MsgsAt w B ms xs → ∀ m ∈ ms, m < w.heap.size
  | [], _, _, g, hg => by simp at hg
  | g0 :: gs, v :: vs, h, g, hg => by
    rcases List.mem_cons.1 hg with rfl | hg
    · obtain ⟨_, v, ho, _⟩ := h.1
      exact (Array.getElem?_eq_some_iff.1 ho).1
    · exact MsgsAt.lt h.2 g hg
  | _ :: _, [], h, _, _ => h.elim
theorem MsgsAt.ge {w : World} {B : Nat} : ∀ {ms : List Nat} {xs : List Mg}, MsgsAt w B ms xs → ∀ m ∈ ms, MsgAt w B m (xs.getD (ms.idxOf m) ⟨[], 0, 0⟩)
  | [], _, _, g, hg => by simp at hg
  | g0 :: gs, v :: vs, h, g, hg => by
    by_cases e : g0 = g
    · subst e; simpa using h.1
    · have hg' : g ∈ gs := by rcases List.mem_cons.1 hg with q | q
                              · exact absurd q.symm e
                              · exact q
      have := MsgsAt.ge h.2 g hg'
      rw [List.idxOf_cons]
      have e2 : (g0 == g) = false := by simpa using e
      rw [e2]; simpa using this
  | _ :: _, [], h, _, _ => h.elim

/-- a way's box: its channel, its pointers, the messages -/
structure Wd where
  C : Nat
  gs : List Nat
  ms : List Nat
  xs : List Mg
structure Way (w : World) (B a : Nat) (d : Wd) : Prop where
  box : Bx w a d.C 40 d.gs
  vals : Vals encP w d.gs (mptrs d.ms)
  msgs : MsgsAt w B d.ms d.xs
  bC : B ≤ d.C
theorem Vals.ne {w : World} {k : Nat} (hk : ∀ p, w.cell? ⟨k, 0, none⟩ ≠ some (.pointer p)) : ∀ {gs : List Nat} {vs : List (Option Addr)}, Vals encP w gs vs → ∀ g ∈ gs, g ≠ k
  | [], _, _, g, hg => by simp at hg
  | g0 :: gs, v :: vs, h, g, hg => by
    rcases List.mem_cons.1 hg with rfl | hg
    · rintro rfl
      exact hk _ h.1
    · exact Vals.ne hk h.2 g hg
  | _ :: _, [], h, _, _ => h.elim
theorem Vals.keptRow {w w' : World} {row : Option Nat} (hg : w.grownBy w' row) : ∀ {gs : List Nat} {vs : List (Option Addr)}, Vals encP w gs vs → (∀ g ∈ gs, some g ≠ row) → Vals encP w' gs vs
  | [], [], _, _ => trivial
  | g :: gs, _ :: _, h, k => ⟨hg.cell h.1 (k g (by simp)), Vals.keptRow hg h.2 fun x hx => k x (by simp [hx])⟩
  | [], _ :: _, h, _ => h.elim
  | _ :: _, [], h, _ => h.elim
theorem Way.kept {w w' : World} {B a : Nat} {d : Wd} (h : Way w B a d) {row : Option Nat} (hg : w.grownBy w' row) (hC : some d.C ≠ row) (hm : ∀ m ∈ d.ms, some m ≠ row) (hr : ∀ k, row = some k → Off w k) : Way w' B a d := by
  refine ⟨h.box.kept hg hC ?_, h.vals.keptRow hg ?_, h.msgs.kept hg hr hm, h.bC⟩
  · intro e
    exact (hr a e.symm).2.1 _ h.box.line
  · intro g hgm e
    exact Vals.ne (hr g e.symm).1 h.vals g hgm rfl

def updW (f : Wy → Wd) (k : Wy) (v : Wd) : Wy → Wd := fun x => if x = k then v else f x
theorem updW_same (f : Wy → Wd) (k : Wy) (v : Wd) : updW f k v k = v := by simp [updW]
theorem updW_other (f : Wy → Wd) {k x : Wy} (v : Wd) (h : x ≠ k) : updW f k v x = f x := by simp [updW, h]
def lnObj (M : Nat) (S L : Int) : Obj := .cells #[.map (some M), .int .i64 S, .int .i64 L] 49 (0, 0)
structure Ls (w : World) (B A M c : Nat) (es : List Went) (D : Wy → Wd) (S L : Int) : Prop where
  obj : w.heap[A]? = some (lnObj M S L)
  mp : WMap w M c es
  bA : B ≤ A
  bM : B ≤ M
  way : ∀ e ∈ es, Way w B e.2.1 (D e.1)
  nodup : (es.map (·.1)).Nodup
  apC : ∀ e ∈ es, ∀ e' ∈ es, e.1 ≠ e'.1 → (D e.1).C ≠ (D e'.1).C
  apM : ∀ e ∈ es, ∀ e' ∈ es, e.1 ≠ e'.1 → ∀ m ∈ (D e.1).ms, m ∉ (D e'.1).ms
  ndM : ∀ e ∈ es, (D e.1).ms.Nodup
theorem Ls.offA {w : World} {B A M c : Nat} {es : List Went} {D : Wy → Wd} {S L : Int} (h : Ls w B A M c es D S L) : Off w A := off_obj (r := [.int .i64 S, .int .i64 L]) h.obj
theorem Ls.offM {w : World} {B A M c : Nat} {es : List Went} {D : Wy → Wd} {S L : Int} (h : Ls w B A M c es D S L) : Off w M := off_map h.mp
theorem Ls.ltA {w : World} {B A M c : Nat} {es : List Went} {D : Wy → Wd} {S L : Int} (h : Ls w B A M c es D S L) : A < w.heap.size := (Array.getElem?_eq_some_iff.1 h.obj).1
theorem Ls.ltM {w : World} {B A M c : Nat} {es : List Went} {D : Wy → Wd} {S L : Int} (h : Ls w B A M c es D S L) : M < w.heap.size := (Array.getElem?_eq_some_iff.1 h.mp).1
theorem Ls.neAM {w : World} {B A M c : Nat} {es : List Went} {D : Wy → Wd} {S L : Int} (h : Ls w B A M c es D S L) : A ≠ M := by
  rintro rfl
  have h1 := h.obj; have h2 : w.heap[A]? = _ := h.mp
  rw [h1] at h2; cases h2
theorem Ls.below {w w' : World} {B A M c : Nat} {es : List Went} {D : Wy → Wd} {S L : Int} (h : Ls w B A M c es D S L) (hb : Below w.heap.size w w') : Ls w' B A M c es D S L := by
  have hg := grown_of_below hb none
  exact ⟨(hb.block A h.ltA).trans h.obj, (hb.block M h.ltM).trans h.mp, h.bA, h.bM, fun e he => (h.way e he).kept hg (by simp) (by simp) (by simp), h.nodup, h.apC, h.apM, h.ndM⟩
theorem Ls.cells {w : World} {B A M c : Nat} {es : List Went} {D : Wy → Wd} {S L : Int} (h : Ls w B A M c es D S L) :
    w.cell? ⟨A, 0, none⟩ = some (.map (some M)) ∧ w.cell? ⟨A, 1, none⟩ = some (.int .i64 S) ∧ w.cell? ⟨A, 2, none⟩ = some (.int .i64 L) ∧ w.frozen? ⟨A, 1, none⟩ = false ∧ w.frozen? ⟨A, 2, none⟩ = false :=
  ⟨by rw [cell_of_row w A 0 _ _ _ h.obj]; rfl, by rw [cell_of_row w A 1 _ _ _ h.obj]; rfl, by rw [cell_of_row w A 2 _ _ _ h.obj]; rfl, frozen_of_row w A 1 _ _ h.obj, frozen_of_row w A 2 _ _ h.obj⟩
theorem grown_setCell (w : World) (A j : Nat) (v : Value) : w.grownBy (w.setCell ⟨A, j, none⟩ v) (some A) :=
  ⟨rfl, rfl, rfl, by simp [World.setCell], fun k _ hne => Below.heap_setCell _ _ _ _ (fun e => hne (by rw [e]))⟩
theorem Ls.obj_to {w w' : World} {B A M c : Nat} {es : List Went} {D : Wy → Wd} {S L S' L' : Int} (h : Ls w B A M c es D S L) (hg : w.grownBy w' (some A)) (ho : w'.heap[A]? = some (lnObj M S' L')) : Ls w' B A M c es D S' L' := by
  have hr : ∀ k, some A = some k → Off w k := fun k e => by obtain rfl := Option.some.inj e; exact h.offA
  refine ⟨ho, (hg.block M h.ltM (fun e => h.neAM (Option.some.inj e).symm)).trans h.mp, h.bA, h.bM, fun e he => (h.way e he).kept hg ?_ ?_ hr, h.nodup, h.apC, h.apM, h.ndM⟩
  · intro q
    obtain ⟨_, _, hc⟩ := (h.way e he).box.chan
    have := h.obj
    rw [← Option.some.inj q, hc] at this; cases this
  · intro m hm q
    obtain ⟨_, v, hv, _⟩ := (h.way e he).msgs.ge m hm
    have := h.obj
    rw [← Option.some.inj q, hv] at this
    injection this with e1; injection e1 with _ e2 _; revert e2; decide
theorem Ls.sent {w : World} {B A M c : Nat} {es : List Went} {D : Wy → Wd} {S L : Int} (h : Ls w B A M c es D S L) (S' : Int) : Ls (w.setCell ⟨A, 1, none⟩ (.int .i64 S')) B A M c es D S' L :=
  h.obj_to (grown_setCell w A 1 _) (heap_setCell_same w A 1 _ _ _ h.obj)
theorem Ls.lost {w : World} {B A M c : Nat} {es : List Went} {D : Wy → Wd} {S L : Int} (h : Ls w B A M c es D S L) (L' : Int) : Ls (w.setCell ⟨A, 2, none⟩ (.int .i64 L')) B A M c es D S L' :=
  h.obj_to (grown_setCell w A 2 _) (heap_setCell_same w A 2 _ _ _ h.obj)
/-- keys tell entries -/
theorem Ls.same {w : World} {B A M c : Nat} {es : List Went} {D : Wy → Wd} {S L : Int} (h : Ls w B A M c es D S L) {e e' : Went} (he : e ∈ es) (he' : e' ∈ es) (hk : e.1 = e'.1) : e = e' := by
  have hn := h.nodup
  clear h
  induction es with
  | nil => simp at he
  | cons y l ih =>
    rw [List.map_cons, List.nodup_cons] at hn
    rcases List.mem_cons.1 he with q1 | q1 <;> rcases List.mem_cons.1 he' with q2 | q2
    · rw [q1, q2]
    · exact absurd (List.mem_map.2 ⟨e', q2, by rw [← hk, q1]⟩) hn.1
    · exact absurd (List.mem_map.2 ⟨e, q1, by rw [hk, q2]⟩) hn.1
    · exact ih q1 q2 hn.2
/-- one way's box turned -/
theorem Ls.box_to {w w' : World} {B A M c : Nat} {es : List Went} {D : Wy → Wd} {S L : Int} (h : Ls w B A M c es D S L) {e : Went} (he : e ∈ es) (d : Wd) (hC : d.C = (D e.1).C) (hg : w.grownBy w' (some (D e.1).C)) (hw : Way w' B e.2.1 d)
    (hms : ∀ m ∈ d.ms, m ∈ (D e.1).ms ∨ ∀ e' ∈ es, m ∉ (D e'.1).ms) (hn : d.ms.Nodup) : Ls w' B A M c es (updW D e.1 d) S L := by
  obtain ⟨s, r, hc⟩ := (h.way e he).box.chan
  have hr : ∀ k, some (D e.1).C = some k → Off w k := fun k q => by obtain rfl := Option.some.inj q; exact off_chan hc
  have neM : M ≠ (D e.1).C := by
    rintro q
    have h2 : w.heap[M]? = _ := h.mp
    rw [q, hc] at h2; cases h2
  have neA : A ≠ (D e.1).C := by
    rintro q
    have h2 := h.obj
    rw [q, hc] at h2; cases h2
  refine ⟨(hg.block A h.ltA (fun q => neA (Option.some.inj q))).trans h.obj, (hg.block M h.ltM (fun q => neM (Option.some.inj q))).trans h.mp, h.bA, h.bM, fun x hx => ?_, h.nodup, fun x hx y hy hne => ?_, fun x hx y hy hne m hm => ?_, fun x hx => ?_⟩
  · by_cases q : x.1 = e.1
    · obtain rfl := h.same hx he q
      rw [updW_same]; exact hw
    · rw [updW_other _ _ q]
      refine (h.way x hx).kept hg (fun e1 => h.apC x hx e he q (Option.some.inj e1)) (fun m hm e1 => ?_) hr
      obtain ⟨_, v, hv, _⟩ := (h.way x hx).msgs.ge m hm
      rw [Option.some.inj e1, hc] at hv; cases hv
  · by_cases q : x.1 = e.1
    · have qy : y.1 ≠ e.1 := fun q2 => hne (q.trans q2.symm)
      rw [q, updW_same, updW_other _ _ qy, hC]
      exact fun q2 => h.apC e he y hy (fun q3 => qy q3.symm) q2
    · rw [updW_other _ _ q]
      by_cases qy : y.1 = e.1
      · rw [qy, updW_same, hC]
        exact h.apC x hx e he q
      · rw [updW_other _ _ qy]; exact h.apC x hx y hy hne
  · by_cases q : x.1 = e.1
    · have qy : y.1 ≠ e.1 := fun q2 => hne (q.trans q2.symm)
      rw [q, updW_same] at hm
      rw [updW_other _ _ qy]
      rcases hms m hm with q3 | q3
      · exact h.apM e he y hy (fun q2 => qy q2.symm) m q3
      · exact q3 y hy
    · rw [updW_other _ _ q] at hm
      by_cases qy : y.1 = e.1
      · rw [qy, updW_same]
        intro q4
        rcases hms m q4 with q3 | q3
        · exact h.apM x hx e he q m hm q3
        · exact q3 x hx hm
      · rw [updW_other _ _ qy]; exact h.apM x hx y hy hne m hm
  · by_cases q : x.1 = e.1
    · rw [q, updW_same]; exact hn
    · rw [updW_other _ _ q]; exact h.ndM x hx
/-- nothing below B has turned, nor any block of cells but lanes and messages -/
structure Bel (B : Nat) (w w' : World) : Prop where
  bel : Below B w w'
  stay : ∀ (i : Nat) (cur : Array Value) (ty : TypeId) (m : Nat × Nat), ty ≠ 49 → ty ≠ 67 → w.heap[i]? = some (.cells cur ty m) → w'.heap[i]? = some (.cells cur ty m)
theorem Bel.refl (B : Nat) (w : World) : Bel B w w := ⟨Below.refl _ _, fun _ _ _ _ _ _ h => h⟩
theorem Bel.trans {B : Nat} {a b c : World} (h : Bel B a b) (k : Bel B b c) : Bel B a c := ⟨h.bel.trans k.bel, fun i cur ty m h1 h2 h3 => k.stay i cur ty m h1 h2 (h.stay i cur ty m h1 h2 h3)⟩
theorem Bel.size {B : Nat} {w w' : World} (h : Bel B w w') : w.heap.size ≤ w'.heap.size := h.bel.size
theorem Bel.of_below {B : Nat} {w w' : World} (h : Below w.heap.size w w') (hB : B ≤ w.heap.size) : Bel B w w' :=
  ⟨h.mono hB, fun i cur ty m _ _ h3 => (h.block i (Array.getElem?_eq_some_iff.1 h3).1).trans h3⟩
theorem Bel.of_grown {B k : Nat} {w w' : World} (hb : Below B w w') (hg : w.grownBy w' (some k)) (hk : ∀ cur ty m, w.heap[k]? = some (.cells cur ty m) → ty = 49 ∨ ty = 67) : Bel B w w' :=
  ⟨hb, fun i cur ty m h1 h2 h3 => by
    by_cases e : i = k
    · subst e
      rcases hk _ _ _ h3 with q | q
      · exact absurd q h1
      · exact absurd q h2
    · exact (hg.block i (Array.getElem?_eq_some_iff.1 h3).1 (fun q => e (Option.some.inj q))).trans h3⟩
theorem Ls.turnA {w : World} {B A M c : Nat} {es : List Went} {D : Wy → Wd} {S L : Int} (h : Ls w B A M c es D S L) (j : Nat) (v : Value) : Bel B w (w.setCell ⟨A, j, none⟩ v) :=
  Bel.of_grown ((Below.refl B w).setCell (p := ⟨A, j, none⟩) h.bA _) (grown_setCell w A j v) (fun cur ty m q => by
    rw [h.obj] at q; injection q with q; injection q with _ q2 _; exact .inl q2.symm)
end Go.Proofs.Ytfdiclamjgldnaa
