/- A list of numbers that is appended to and whose head is cut off: it need not begin at its row's head. No number of a program stands here. -/
import Derived.Test.YtboilelkkiimoaaBoxState
import Derived.Test.YtboilelkkiimoaaMemOne
import Derived.ArgAppend
import Derived.Deep.MidRow
import Derived.Deep.Onto
namespace Go.Proofs.Ytboilelkkiimoaa
open Go Go.RowKit

theorem size_setCells (g : Nat) : ∀ (vs : List Value) (o : Nat) (w : World), (w.setCells g o vs).heap.size = w.heap.size
  | [], _, _ => rfl
  | v :: r, o, w => by rw [World.setCells, size_setCells g r (o + 1)]; simp [World.setCell]
theorem below_setCells {B : Nat} {a : World} (g : Nat) (hg : B ≤ g) : ∀ (vs : List Value) (o : Nat) (w : World) (_ : Below B a w), Below B a (w.setCells g o vs)
  | [], _, _, h => h
  | v :: r, o, w, h => by rw [World.setCells]; exact below_setCells g hg r (o + 1) _ (h.setCell hg v)
/-- such a list: its row lies from B on and is none of the blocks gs -/
def Que (B : Nat) (gs : List Nat) (w : World) (v : Value) (vs : List Int) : Prop :=
  ∃ p cap, v = .slice p vs.length cap ∧ vs.length ≤ cap ∧ cap ≤ maxLen ∧ (p = none → cap = 0) ∧ ∀ x, p = some x → ∃ g off, x = ⟨g, off, none⟩ ∧ B ≤ g ∧ g < w.heap.size ∧ g ∉ gs ∧ (∀ j, j < vs.length → w.cell? ⟨g, off + j, none⟩ = some (.int .i64 (vs.getD j 0))) ∧ ∀ j, j < cap → (w.cell? ⟨g, off + j, none⟩).isSome = true ∧ w.frozen? ⟨g, off + j, none⟩ = false
theorem Que.nil (B : Nat) (gs : List Nat) (w : World) : Que B gs w (.slice none 0 0) [] :=
  ⟨none, 0, rfl, Nat.le_refl _, Nat.zero_le _, fun _ => rfl, fun x h => by cases h⟩
theorem Que.keep {B : Nat} {gs gs' : List Nat} {w w' : World} {v : Value} {vs : List Int} (h : Que B gs w v vs) (hz : w.heap.size ≤ w'.heap.size) (hk : ∀ g, B ≤ g → g < w.heap.size → g ∉ gs → w'.heap[g]? = w.heap[g]?) (hg : ∀ g, g ∈ gs' → g ∈ gs ∨ w.heap.size ≤ g) : Que B gs' w' v vs := by
  obtain ⟨p, cap, h1, h2, h3, h4, h5⟩ := h
  refine ⟨p, cap, h1, h2, h3, h4, fun x hx => ?_⟩
  obtain ⟨g, off, e, hB, hlt, hn, hc, hf⟩ := h5 x hx
  have hb := hk g hB hlt hn
  refine ⟨g, off, e, hB, by omega, fun hm => ?_, fun j hj => ?_, fun j hj => ⟨?_, ?_⟩⟩
  · rcases hg g hm with h | h
    · exact hn h
    · omega
  · exact (World.cell?_of_block (a := ⟨g, off + j, none⟩) hb).trans (hc j hj)
  · rw [World.cell?_of_block (a := ⟨g, off + j, none⟩) hb]; exact (hf j hj).1
  · rw [World.frozen?_of_block (a := ⟨g, off + j, none⟩) hb]; exact (hf j hj).2
theorem Que.below {B : Nat} {gs : List Nat} {w w' : World} {v : Value} {vs : List Int} (h : Que B gs w v vs) (hb : Below w.heap.size w w') : Que B gs w' v vs :=
  h.keep hb.size (fun g _ hg _ => hb.block g hg) (fun _ hg => .inl hg)
theorem Que.grown {B C : Nat} {gs gs' : List Nat} {w w' : World} {v : Value} {vs : List Int} (h : Que B gs w v vs) (hg : w.grownBy w' (some C)) (hC : C < B) (hs : ∀ g, g ∈ gs' → g ∈ gs ∨ w.heap.size ≤ g) : Que B gs' w' v vs :=
  h.keep hg.size (fun g hB hlt _ => hg.block g hlt (fun e => by have := Option.some.inj e; omega)) hs
theorem Que.slice {B : Nat} {gs : List Nat} {w : World} {v : Value} {vs : List Int} (h : Que B gs w v vs) : ∃ p cap, v = .slice p vs.length cap ∧ vs.length ≤ cap := by
  obtain ⟨p, cap, h1, h2, _⟩ := h
  exact ⟨p, cap, h1, h2⟩
/-- where its numbers lie -/
theorem Que.at {B : Nat} {gs : List Nat} {w : World} {p : Option Addr} {n cap : Nat} {vs : List Int} (h : Que B gs w (.slice p n cap) vs) (hv : vs ≠ []) : n = vs.length ∧ n ≤ cap ∧ ∃ g off, p = some ⟨g, off, none⟩ ∧ g < w.heap.size ∧ ∀ j, j < vs.length → w.cell? ⟨g, off + j, none⟩ = some (.int .i64 (vs.getD j 0)) := by
  obtain ⟨p', cap', h1, h2, _, h4, h5⟩ := h
  injection h1 with e1 e2 e3
  subst e1; subst e2; subst e3
  have hpos : 0 < vs.length := List.length_pos_iff.2 hv
  cases p with
  | none => have := h4 rfl; omega
  | some x =>
    obtain ⟨g, off, rfl, _, hlt, _, hc, _⟩ := h5 x rfl
    exact ⟨rfl, h2, g, off, rfl, hlt, hc⟩
/-- its head cut off -/
theorem Que.cut {B : Nat} {gs : List Nat} {w : World} {g off n cap : Nat} {v : Int} {vs : List Int} (h : Que B gs w (.slice (some ⟨g, off, none⟩) n cap) (v :: vs)) : Que B gs w (.slice (if cap = 1 then some ⟨g, off, none⟩ else some ⟨g, off + 1, none⟩) vs.length (cap - 1)) vs := by
  obtain ⟨p', cap', h1, h2, h3, h4, h5⟩ := h
  injection h1 with e1 e2 e3
  subst e1; subst e2; subst e3
  obtain ⟨g', off', e, hB, hlt, hn, hc, hf⟩ := h5 _ rfl
  injection e with e1 e2
  subst e1; subst e2
  simp only [List.length_cons] at h2 hc
  by_cases hc1 : cap = 1
  · subst hc1
    obtain rfl : vs = [] := List.eq_nil_of_length_eq_zero (by omega)
    rw [if_pos rfl]
    exact ⟨_, _, rfl, by simp, by simp, (fun h => rfl), fun x hx => by
      injection hx with hx
      subst hx
      exact ⟨g, off, rfl, hB, hlt, hn, fun j hj => by simp at hj, fun j hj => by omega⟩⟩
  rw [if_neg hc1]
  refine ⟨_, _, rfl, by omega, by omega, (fun h => by cases h), fun x hx => ?_⟩
  injection hx with hx
  subst hx
  refine ⟨g, off + 1, rfl, hB, hlt, hn, fun j hj => ?_, fun j hj => ?_⟩
  · have := hc (j + 1) (by omega)
    rw [show off + 1 + j = off + (j + 1) by omega, this]
    simp [List.getD]
  · have := hf (j + 1) (by omega)
    rw [show off + 1 + j = off + (j + 1) by omega]; exact this
/-- a row of the call's own -/
theorem Que.own {B b e : Nat} {gs : List Nat} {w : World} {v : Value} {vs : List Int} {xs : List Value} (h : w.ownsRow b e 1 v vs.length xs) (hxs : xs = vs.map (Value.int .i64)) (hB : B ≤ b) (hgs : ∀ g ∈ gs, g < b) : Que B gs w v vs := by
  subst hxs
  have h0 := h
  rcases h.2 with ⟨rfl, hn⟩ | ⟨g, cap, cur, rfl, hb, hheap, hc, hm, hs, _⟩
  · obtain rfl : vs = [] := List.eq_nil_of_length_eq_zero hn
    exact Que.nil B gs w
  · have hlt : g < w.heap.size := (Array.getElem?_eq_some_iff.1 hheap).1
    refine ⟨_, _, rfl, hc, hm, (fun h => by cases h), fun x hx => ?_⟩
    injection hx with hx
    subst hx
    refine ⟨g, 0, rfl, by omega, hlt, fun hg => by have := hgs g hg; omega, fun j hj => ?_, fun j hj => ⟨?_, ?_⟩⟩
    · rw [Nat.zero_add, h0.cellAt j (by omega)]
      simp [List.getD, List.getElem?_eq_getElem hj]
    · rw [Nat.zero_add, cell_of_row w g j cur e (0, 0) hheap, Array.getElem?_eq_getElem (by omega)]; rfl
    · simp [World.frozen?, hheap]
/-- what an append to it leaves -/
structure QKept (B : Nat) (gs : List Nat) (w w' : World) : Prop where
  below : Below B w w'
  kept : ∀ g ∈ gs, g < w.heap.size → w'.heap[g]? = w.heap[g]?
theorem Vals.mem {V : Type} {enc : V → Value} {w w' : World} : ∀ {gs : List Nat} {vs : List V}, Vals enc w gs vs → (∀ g ∈ gs, g < w.heap.size → w'.heap[g]? = w.heap[g]?) → Vals enc w' gs vs
  | [], [], _, _ => trivial
  | g :: gs, v :: vs, h, k => ⟨(World.cell?_of_block (a := ⟨g, 0, none⟩) (k g (by simp) (World.block_lt_of_cell? w _ h.1))).trans h.1, Vals.mem h.2 fun x hx => k x (by simp [hx])⟩
  | [], _ :: _, h, _ => h.elim
  | _ :: _, [], h, _ => h.elim

section
variable {P : Program} {t e : TypeId} {b : Nat} {ops : Array Oper} {rest : List Oper} {o : Oper} {a : Act} {Q : Exit → Act → World → Prop}
/-- 'in = append(in, x)' -/
theorem wpList_que (U : One P t e (.int .i64 0) b) (w : World) (hg : o.guard = none) (s x : Operand) (ho : o.op = .call { callee := .builtin .append, args := #[s, x], argTypes := #[t, t] })
    (B : Nat) (gs : List Nat) (vs : List Int) (v : Value) (hs : a.eval s = v) (hq : Que B gs w v vs) (y : Int) (hx : a.eval x = .slice (some ⟨w.heap.size, 0, none⟩) 1 1)
    (hlen : vs.length + 1 ≤ 1000000000000) (hB : B ≤ w.heap.size) (hgs : ∀ g ∈ gs, g < w.heap.size)
    (h : ∀ v' w', Que B gs w' v' (vs ++ [y]) → QKept B gs w w' → wpList P ops Q rest (a.put o.dst v') w') : wpList P ops Q (o :: rest) a (w.alloc (.cells #[.int .i64 y] e)) := by
  obtain ⟨i0, hi, hz0, hz1, hz2⟩ := info_parts U.info
  have hb := U.le
  have hm : (vs.length + 1) * b ≤ 140737488355328 := Nat.le_trans (Nat.mul_le_mul_left _ hb) (by omega)
  have hnc : ∀ (j : Nat) (u : Value), ([Value.int .i64 y] : List Value)[j]? = some u → (w.alloc (.cells #[.int .i64 y] e)).cell? (Addr.add ⟨w.heap.size, 0, none⟩ j) = some u := by
    intro j u hu
    match j with
    | 0 =>
      simp at hu
      subst hu
      rw [Addr.add_lit, cell_of_row _ _ _ _ _ _ (heap_alloc_new w _)]; rfl
    | j + 1 => simp at hu
  have hlies : ∀ (g off : Nat), (∀ j, j < vs.length → w.cell? ⟨g, off + j, none⟩ = some (.int .i64 (vs.getD j 0))) → ∀ (j : Nat) (u : Value), (vs.map (Value.int .i64))[j]? = some u → (w.alloc (.cells #[.int .i64 y] e)).cell? ⟨g, off + j, none⟩ = some u := by
    intro g off hc j u hu
    have hj : j < vs.length := by have := (List.getElem?_eq_some_iff.1 hu).1; simpa using this
    refine cell_alloc _ ?_
    rw [hc j hj]
    simp [List.getElem?_eq_getElem hj] at hu
    simp [List.getD, List.getElem?_eq_getElem hj, hu]
  have hgrow : ∀ v' w', w'.ownsRow (w.alloc (.cells #[.int .i64 y] e)).heap.size e 1 v' (vs.length + 1) (vs.map (Value.int .i64) ++ [.int .i64 y]) → (w.alloc (.cells #[.int .i64 y] e)).grownBy w' none → wpList P ops Q rest (a.put o.dst v') w' := by
    intro v' w' ho' hgb
    have hsz : (w.alloc (.cells #[.int .i64 y] e)).heap.size = w.heap.size + 1 := by simp
    rw [hsz] at ho'
    have hbl : ∀ k, k < w.heap.size → w'.heap[k]? = w.heap[k]? := fun k hk => (hgb.block k (by omega) (fun e => by cases e)).trans (Below.heap_alloc w _ k hk)
    refine h v' w' (Que.own (vs := vs ++ [y]) (b := w.heap.size + 1) (e := e) (xs := vs.map (Value.int .i64) ++ [.int .i64 y]) (by simpa using ho') (by simp) (by omega) (fun g hg => by have := hgs g hg; omega)) ⟨⟨hgb.os, hgb.tape, hgb.output, ?_, fun k hk => hbl k (by omega)⟩, fun g _ hlt => hbl g hlt⟩
    have := hgb.size
    omega
  obtain ⟨p, cap, rfl, hle, hmax, hnone, hsome⟩ := hq
  cases p with
  | none =>
    obtain rfl := hnone rfl
    obtain rfl : vs = [] := List.eq_nil_of_length_eq_zero (by omega)
    exact wpList_append_grows _ hg s x t ho e i0 (.int .i64 0) 1 b U.slice hi hz0 hz1 hz2 U.one (by decide) none 0 0 [] hs (fun _ => ⟨rfl, rfl⟩) rfl (fun _ h => by cases h) ⟨w.heap.size, 0, none⟩ 1 1 [.int .i64 y] hx rfl hnc (by intro u hu; simp at hu; subst hu; rfl) (by omega) (by simp [maxLen]) (by simpa using hm) (fun v' w' h1 h2 => hgrow v' w' (by simpa using h1) h2)
  | some x0 =>
    obtain ⟨g, off, rfl, hBg, hlt, hng, hc, hf⟩ := hsome x0 rfl
    have hne : g ≠ w.heap.size := by omega
    refine wpList_append_arg _ hg s x t ho e i0 (.int .i64 0) 1 b U.slice hi hz0 hz1 hz2 U.one (by decide) g off vs.length cap (vs.map (Value.int .i64)) hs (by simp) (hlies g off hc) ⟨w.heap.size, 0, none⟩ 1 1 [.int .i64 y] hx rfl hnc (by intro u hu; simp at hu; subst hu; rfl) ?_ (by unfold maxLen; omega) hm ?_ (fun _ => hgrow)
    · intro hr j hj
      have hj0 : j = 0 := by simp at hj; exact hj
      subst hj0
      obtain ⟨k1, k2⟩ := hf vs.length (by omega)
      rw [show off + vs.length * 1 + 0 = off + vs.length by omega]
      constructor
      · obtain ⟨u, hu⟩ := Option.isSome_iff_exists.1 k1
        rw [cell_alloc _ hu]; rfl
      · rw [World.frozen?_of_block (a := ⟨g, off + vs.length, none⟩) (Below.heap_alloc w _ g hlt)]; exact k2
    · intro hr
      have hap : ∀ k, k < (w.alloc (.cells #[.int .i64 y] e)).heap.size → k ≠ g → ((w.alloc (.cells #[.int .i64 y] e)).setCell ⟨g, off + vs.length * 1, none⟩ (.int .i64 y)).heap[k]? = (w.alloc (.cells #[.int .i64 y] e)).heap[k]? := fun k _ hk => Below.heap_setCell _ ⟨g, _, none⟩ _ k hk
      have hsz : (w.alloc (.cells #[.int .i64 y] e)).heap.size = w.heap.size + 1 := by simp
      have hbel : Below B w ((w.alloc (.cells #[.int .i64 y] e)).setCell ⟨g, off + vs.length * 1, none⟩ (.int .i64 y)) := ((Below.refl B w).alloc hB _).setCell hBg _
      show wpList P ops Q rest (a.put o.dst (.slice (some ⟨g, off, none⟩) (vs.length + 1) cap)) ((w.alloc (.cells #[.int .i64 y] e)).setCell ⟨g, off + vs.length * 1, none⟩ (.int .i64 y))
      refine h _ _ ⟨some ⟨g, off, none⟩, cap, by simp, by simp; omega, hmax, (fun h => by cases h), fun x hx => ?_⟩ ⟨hbel, fun k hk hlt' => ?_⟩
      · injection hx with hx
        subst hx
        refine ⟨g, off, rfl, hBg, Nat.lt_of_lt_of_le hlt hbel.size, hng, fun j hj => ?_, fun j hj => ?_⟩
        · by_cases hjn : j = vs.length
          · subst hjn
            have := World.cell?_setCells_in g [.int .i64 y] (off + vs.length * 1) (w.alloc (.cells #[.int .i64 y] e)) (fun j hj => by
              have hj0 : j = 0 := by simp at hj; exact hj
              subst hj0
              obtain ⟨k1, _⟩ := hf vs.length (by omega)
              obtain ⟨u, hu⟩ := Option.isSome_iff_exists.1 k1
              rw [show off + vs.length * 1 + 0 = off + vs.length by omega, cell_alloc _ hu]; rfl) 0 (by simp)
            rw [show off + vs.length * 1 + 0 = off + vs.length by omega] at this
            refine this.trans ?_
            simp [List.getD]
          · have hjl : j < vs.length := by simp at hj; omega
            have := World.cell?_setCells_out g [.int .i64 y] (off + vs.length * 1) (w.alloc (.cells #[.int .i64 y] e)) ⟨g, off + j, none⟩ (fun _ _ => .inl (show off + j < _ by omega))
            refine this.trans ((cell_alloc _ (hc j hjl)).trans ?_)
            simp [List.getD, List.getElem?_append_left hjl]
        · obtain ⟨k1, k2⟩ := hf j hj
          constructor
          · exact World.isSome_setCells g [.int .i64 y] (off + vs.length * 1) (w.alloc (.cells #[.int .i64 y] e)) ⟨g, off + j, none⟩ (by obtain ⟨u, hu⟩ := Option.isSome_iff_exists.1 k1; rw [cell_alloc _ hu]; rfl)
          · have := World.frozen?_setCells g [.int .i64 y] (off + vs.length * 1) (w.alloc (.cells #[.int .i64 y] e)) ⟨g, off + j, none⟩
            refine this.trans ?_
            rw [World.frozen?_of_block (a := ⟨g, off + j, none⟩) (Below.heap_alloc w _ g hlt)]; exact k2
      · have hkg : k ≠ g := fun e => hng (e ▸ hk)
        exact (hap k (by omega) hkg).trans (Below.heap_alloc w _ k hlt')
end
end Go.Proofs.Ytboilelkkiimoaa
