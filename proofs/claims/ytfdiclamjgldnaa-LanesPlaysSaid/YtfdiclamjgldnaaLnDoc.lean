/- The document's lanes: messages in the order in which they were sent; their row; what stays. -/
import Derived.Test.YtfdiclamjgldnaaLnErr
namespace Go.Proofs.Ytfdiclamjgldnaa
open Go Go.RowKit Go.Conc
set_option linter.unusedVariables false

/-! Rows of things of k cells -/
section
variable {α : Type} {f : α → List Value} {k : Nat}
theorem flat_len (hk : ∀ x, (f x).length = k) : ∀ l : List α, (l.flatMap f).length = l.length * k
  | [] => by simp
  | x :: l => by
    rw [List.flatMap_cons, List.length_append, hk, flat_len hk l, List.length_cons, Nat.add_mul]; omega
theorem flat_get (hk : ∀ x, (f x).length = k) : ∀ (l : List α) (i : Nat) (hi : i < l.length) (j : Nat) (hj : j < k), (l.flatMap f)[i * k + j]? = (f l[i])[j]?
  | x :: l, 0, _, j, hj => by
    rw [List.flatMap_cons, Nat.zero_mul, Nat.zero_add, List.getElem?_append_left (by rw [hk]; exact hj)]; rfl
  | x :: l, i + 1, hi, j, hj => by
    rw [List.flatMap_cons, show (i + 1) * k + j = k + (i * k + j) from by rw [Nat.add_mul]; omega, List.getElem?_append_right (by rw [hk]; omega), hk, Nat.add_sub_cancel_left, flat_get hk l i (by simpa using hi) j hj]
    rfl
theorem flat_set (hk : ∀ x, (f x).length = k) (j : Nat) (hj : j < k) (u : Value) (y : α) : ∀ (l : List α) (i : Nat) (hi : i < l.length) (hy : f y = (f l[i]).set j u), (l.flatMap f).set (i * k + j) u = (l.set i y).flatMap f
  | x :: l, 0, _, hy => by
    have hy' : f y = (f x).set j u := hy
    rw [List.flatMap_cons, Nat.zero_mul, Nat.zero_add, List.set_append_left _ _ (by rw [hk]; exact hj), List.set_cons_zero, List.flatMap_cons, hy']
  | x :: l, i + 1, hi, hy => by
    have hy' : f y = (f (l[i]'(by simpa using hi))).set j u := hy
    rw [List.flatMap_cons, show (i + 1) * k + j = k + (i * k + j) from by rw [Nat.add_mul]; omega, List.set_append_right _ _ (by rw [hk]; omega), hk, Nat.add_sub_cancel_left, flat_set hk j hj u y l i (by simpa using hi) hy', List.set_cons_succ, List.flatMap_cons]
end


/-- a message as the document keeps it -/
structure Pc where
  k : Wy
  b : List UInt8
  at_ : Nat
  by_ : UInt8
def Pc.Ok (p : Pc) : Prop := p.b.length ≤ 1000 ∧ (p.at_ : Int) ≤ 9223372036854775807
def Pc.cs (p : Pc) : List Value := [.int .i64 p.k.1, .int .i64 p.k.2, .string ⟨p.b.toArray⟩, .int .i64 (p.at_ : Int), .int .u8 (p.by_.toNat : Int)]
theorem Pc.cs_len (p : Pc) : p.cs.length = 5 := rfl
theorem Pc.cs_one (p : Pc) : ∀ u ∈ p.cs, u.oneCell' = true := by
  intro u hu
  simp only [Pc.cs, List.mem_cons, List.not_mem_nil, or_false] at hu
  rcases hu with rfl | rfl | rfl | rfl | rfl <;> rfl
def pcl (L : List Pc) : List Value := L.flatMap Pc.cs
theorem pcl_len (L : List Pc) : (pcl L).length = L.length * 5 := flat_len Pc.cs_len L
theorem pcl_append (a b : List Pc) : pcl (a ++ b) = pcl a ++ pcl b := by simp [pcl]
theorem pcl_one (L : List Pc) : ∀ u ∈ pcl L, u.oneCell' = true := by
  intro u hu
  obtain ⟨p, _, hp⟩ := List.mem_flatMap.1 hu
  exact p.cs_one u hp
/-- what is on a way -/
def on (d : Wy) (L : List Pc) : List Pc := L.filter fun p => decide (p.k = d)
theorem on_append (d : Wy) (a b : List Pc) : on d (a ++ b) = on d a ++ on d b := by simp [on]
theorem on_take (d : Wy) (L : List Pc) (i : Nat) (hi : i < L.length) : on d (L.take (i + 1)) = on d (L.take i) ++ (if L[i].k = d then [L[i]] else []) := by
  rw [List.take_succ_eq_append_getElem hi, on_append]
  congr 1
  unfold on
  by_cases h : L[i].k = d <;> simp [h]
theorem on_le (d : Wy) (L : List Pc) : (on d L).length ≤ L.length := List.length_filter_le _ _

/-- parcels that lie somewhere -/
structure PAt (w : World) (p : Option Addr) (L : List Pc) : Prop where
  row : L ≠ [] → ∃ g o, p = some ⟨g, o, none⟩ ∧ ∀ (j : Nat) u, (pcl L)[j]? = some u → w.cell? ⟨g, o + j, none⟩ = some u
  nil : p = none → L = []
theorem PAt.at {w : World} {p : Option Addr} {L : List Pc} (h : PAt w p L) {i : Nat} (hi : i < L.length) :
    ∃ g o, p = some ⟨g, o, none⟩ ∧ g < w.heap.size ∧ ∀ (j : Nat) u, L[i].cs[j]? = some u → w.cell? ⟨g, o + i * 5 + j, none⟩ = some u := by
  obtain ⟨g, o, rfl, hc⟩ := h.row (by intro e; subst e; simp at hi)
  have key : ∀ (j : Nat) u, L[i].cs[j]? = some u → w.cell? ⟨g, o + i * 5 + j, none⟩ = some u := fun j u hu => by
    have hj : j < 5 := by have := (List.getElem?_eq_some_iff.1 hu).1; simpa [Pc.cs] using this
    have := hc (i * 5 + j) u (by rw [pcl, flat_get Pc.cs_len L i hi j hj]; exact hu)
    rwa [← Nat.add_assoc] at this
  exact ⟨g, o, rfl, World.block_lt_of_cell? w _ (key 0 _ rfl), key⟩
theorem PAt.below {w w' : World} {p : Option Addr} {L : List Pc} (h : PAt w p L) (hb : Below w.heap.size w w') : PAt w' p L :=
  ⟨fun h0 => by
    obtain ⟨g, o, e, hc⟩ := h.row h0
    exact ⟨g, o, e, fun j u hu => by
      have h1 := hc j u hu
      exact (hb.cell (p := ⟨g, o + j, none⟩) (World.block_lt_of_cell? w _ h1)).trans h1⟩, h.nil⟩
theorem own_pat {w : World} {B : Nat} {v : Value} {L : List Pc} (hr : w.ownsRow B 61 5 v L.length (pcl L)) : ∃ p c, v = .slice p L.length c ∧ L.length ≤ c ∧ c ≤ maxLen ∧ PAt w p L ∧ (p = none → c = 0) := by
  rcases hr.2 with ⟨rfl, h0⟩ | ⟨g, cap, cur, rfl, hB, hg, hc, hm, hs, ht⟩
  · have : L = [] := List.eq_nil_of_length_eq_zero h0
    subst this
    exact ⟨none, 0, rfl, Nat.le_refl _, Nat.zero_le _, ⟨fun hn => absurd rfl hn, fun _ => rfl⟩, fun _ => rfl⟩
  · refine ⟨some ⟨g, 0, none⟩, cap, rfl, hc, hm, ⟨fun _ => ⟨g, 0, rfl, fun j u hu => ?_⟩, fun e => by cases e⟩, fun e => by cases e⟩
    have hj : j < L.length * 5 := by rw [← pcl_len]; exact (List.getElem?_eq_some_iff.1 hu).1
    have := hr.cellAt j hj
    rw [Nat.zero_add, this]; exact hu

/-- the document's lanes at R -/
def rlObj (n : Int) (V : Value) (S Lo : Int) : Obj := .cells #[.int .i64 n, V, .int .i64 S, .int .i64 Lo] 29 (0, 0)
structure Rl (w : World) (B R : Nat) (n : Int) (L : List Pc) (S Lo : Int) : Prop where
  obj : ∃ V, w.heap[R]? = some (rlObj n V S Lo) ∧ w.ownsRow B 61 5 V L.length (pcl L) ∧ (L = [] → V = .slice none 0 0)
  base : B ≤ R
  ok : ∀ p ∈ L, p.Ok
theorem Rl.lt {w : World} {B R : Nat} {n : Int} {L : List Pc} {S Lo : Int} (h : Rl w B R n L S Lo) : R < w.heap.size := by
  obtain ⟨V, ho, _⟩ := h.obj
  exact (Array.getElem?_eq_some_iff.1 ho).1
theorem Rl.stay {w w' : World} {B R : Nat} {n : Int} {L : List Pc} {S Lo : Int} (h : Rl w B R n L S Lo)
    (hs : ∀ (i : Nat) (cur : Array Value) (ty : TypeId) (m : Nat × Nat), ty ≠ 49 → ty ≠ 67 → w.heap[i]? = some (.cells cur ty m) → w'.heap[i]? = some (.cells cur ty m)) : Rl w' B R n L S Lo := by
  obtain ⟨V, ho, hr, hn⟩ := h.obj
  refine ⟨⟨V, hs _ _ _ _ (by decide) (by decide) ho, ⟨hr.1, ?_⟩, hn⟩, h.base, h.ok⟩
  rcases hr.2 with q | ⟨g, cap, cur, q1, q2, q3, q4⟩
  · exact .inl q
  · exact .inr ⟨g, cap, cur, q1, q2, hs _ _ _ _ (by decide) (by decide) q3, q4⟩
theorem Rl.below {w w' : World} {B R : Nat} {n : Int} {L : List Pc} {S Lo : Int} (h : Rl w B R n L S Lo) (hb : Below w.heap.size w w') : Rl w' B R n L S Lo :=
  h.stay fun i cur ty m _ _ q => (hb.block i (Array.getElem?_eq_some_iff.1 q).1).trans q
/-- the program's lanes stay where a block of another kind turns -/
theorem Lx.kept {w w' : World} {B A : Nat} {n : Int} {F : Wy → List Mg} {S L : Int} (h : Lx w B A n F S L) {k : Nat} (hg : w.grownBy w' (some k)) (ho : Off w k) (hc : ∃ cur ty m, w.heap[k]? = some (.cells cur ty m) ∧ ty ≠ 49 ∧ ty ≠ 67 ∧ ty ≠ 32) : Lx w' B A n F S L := by
  obtain ⟨M, c, es, D, h, hgd, hF⟩ := h
  obtain ⟨cur, ty, m, hk, h1, h2⟩ := hc
  have hr : ∀ j, some k = some j → Off w j := fun j q => by obtain rfl := Option.some.inj q; exact ho
  refine ⟨M, c, es, D, ⟨(hg.block A h.ltA (fun q => ?_)).trans h.obj, (hg.block M h.ltM (fun q => ?_)).trans h.mp, h.bA, h.bM, fun e he => (h.way e he).kept hg (fun q => ?_) (fun j hj q => ?_) hr, h.nodup, h.apC, h.apM, h.ndM⟩, hgd, hF⟩
  · have := h.obj
    rw [Option.some.inj q, hk] at this; injection this with e; injection e with _ e2 _; exact h1 e2
  · have : w.heap[M]? = _ := h.mp
    rw [Option.some.inj q, hk] at this; cases this
  · obtain ⟨_, _, hcc⟩ := (h.way e he).box.chan
    rw [Option.some.inj q, hk] at hcc; cases hcc
  · obtain ⟨_, v, hv, _⟩ := (h.way e he).msgs.ge j hj
    rw [Option.some.inj q, hk] at hv; injection hv with e; injection e with _ e2 _; exact h2.1 e2
theorem Rl.offR {w : World} {B R : Nat} {n : Int} {L : List Pc} {S Lo : Int} (h : Rl w B R n L S Lo) : Off w R ∧ ∃ cur ty m, w.heap[R]? = some (.cells cur ty m) ∧ ty ≠ 49 ∧ ty ≠ 67 ∧ ty ≠ 32 := by
  obtain ⟨V, ho, _⟩ := h.obj
  have c : w.cell? ⟨R, 0, none⟩ = some (.int .i64 n) := by rw [cell_of_row w R 0 _ _ _ ho]; rfl
  refine ⟨⟨fun p hp => ?_, fun p hp => ?_, fun cur m e => ?_⟩, ⟨_, _, _, ho, by decide, by decide, by decide⟩⟩
  · rw [c] at hp; cases hp
  · rw [c] at hp; cases hp
  · rw [ho] at e; injection e with e; injection e with _ e2 _; revert e2; decide
theorem off_row {w : World} {B g cap : Nat} {L : List Pc} (hr : w.ownsRow B 61 5 (.slice (some ⟨g, 0, none⟩) L.length cap) L.length (pcl L)) (hL : L ≠ []) : Off w g ∧ ∃ cur ty m, w.heap[g]? = some (.cells cur ty m) ∧ ty ≠ 49 ∧ ty ≠ 67 ∧ ty ≠ 32 := by
  have hpos : 0 < L.length := List.length_pos_iff.2 hL
  have c : w.cell? ⟨g, 0, none⟩ = some (.int .i64 (L[0]).k.1) := by
    rw [hr.cellAt 0 (by omega)]
    have := flat_get Pc.cs_len L 0 hpos 0 (by omega)
    simpa [pcl, Pc.cs] using this
  rcases hr.2 with ⟨q, _⟩ | ⟨g', cap', cur, q1, _, q3, _⟩
  · simp at q
  · simp only [Value.slice.injEq, Option.some.injEq, Addr.mk.injEq, and_true, true_and] at q1
    obtain ⟨rfl, _⟩ := q1
    refine ⟨⟨fun p hp => ?_, fun p hp => ?_, fun cur m e => ?_⟩, ⟨_, _, _, q3, by decide, by decide, by decide⟩⟩
    · rw [c] at hp; cases hp
    · rw [c] at hp; cases hp
    · rw [q3] at e; injection e with e; injection e with _ e2 _; revert e2; decide
/-- both, side by side -/
structure Both (w : World) (B A R n : Nat) (F : Wy → List Mg) (L : List Pc) (S Lo : Int) : Prop where
  pr : Lx w B A n F S Lo
  doc : Rl w B R n L S Lo
end Go.Proofs.Ytfdiclamjgldnaa
