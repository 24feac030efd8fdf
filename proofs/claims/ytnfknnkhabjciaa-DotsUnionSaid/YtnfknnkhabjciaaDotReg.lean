/- Regions over contexts: read whole in a quiet region; made beside calls in a region that leaves its order open. -/
import Derived.Test.YtnfknnkhabjciaaDotRefTidy
import Derived.Test.YtnfknnkhabjciaaRegionFree
import Derived.Test.YtnfknnkhabjciaaVecRows
namespace Go.Proofs.Ytnfknnkhabjciaa
open Go Go.RowKit
set_option linter.unusedVariables false

section
variable {P : Program} {t e : TypeId} {ops : Array Oper} {rest : List Oper} {o : Oper} {a : Act} {C : World → Prop} {R : Act → Prop}
theorem wpQuiet_valG {v : Value} (hw : Region.wanted o (yielded ops a.tmps) = true) (h : ∀ w, C w → (execOp a.eval o).run P w = .ok (.value v) w) (hk : wpQuiet P ops C R rest (a.put o.dst v)) : wpQuiet P ops C R (o :: rest) a := by
  refine wpQuiet_step fun K hK => ?_
  rw [if_pos hw]
  exact ⟨v, fun w hw => by unfold Oper.quietAt; rw [h w hw]; exact ⟨rfl, rfl⟩, hK _ hk⟩
theorem wpQuiet_gloadG (hw : Region.wanted o (yielded ops a.tmps) = true) (x : Operand) (ho : o.op = .load t x) (b c : Nat) (hx : a.eval x = .pointer (some ⟨b, c, none⟩)) (cs : List Value) (hr : ∀ w, C w → w.rangeAt b c cs) (d : TypeDesc) (hu : P.underlying t = some d) (hd : d.isRow = true) (hi : (P.info? t).map (·.size) = some cs.length)
    (hk : wpQuiet P ops C R rest (a.put o.dst (.agg cs.toArray))) : wpQuiet P ops C R (o :: rest) a := by
  refine wpQuiet_valG hw (fun w hw => ?_) hk
  unfold execOp
  simp only [ho, hx]
  exact run_value_of (run_loadAt_mid w b c t cs d (hr w hw) hu hd hi)
theorem quiet_callB {w : World} {f : FuncId} {args : Array Value} {v : Value} (h : ∀ W, Below w.heap.size w W → Calls P f args W fun e w' => e = .returned v ∧ Below W.heap.size W w') (d : Nat) (os : Array Obj) :
    Calls P f args (Sort.grow (redrawn w d) os) fun e w'' => e = .returned v ∧ ∃ p : Regrown, w'' = Sort.grow (redrawn w p.d) p.os := Calls.regrown_of (h _ (below_regrown w d os))
end
theorem below_quiet {w W : World} (h : ∃ p : Regrown, W = Sort.grow (redrawn w p.d) p.os) : Below w.heap.size w W := by
  obtain ⟨p, rfl⟩ := h
  exact below_regrown w p.d p.os
theorem drew_below {w : World} : Below w.heap.size w w.drew := (Below.refl _ w).drew
theorem shape3 {w : World} {B : Nat} {T : TypeId} {k n : Nat} {v : Value} {xs : List Value} (h : w.ownsRow B T k v n xs) : ∃ p n c, v = .slice p n c := by
  obtain ⟨p, c, e⟩ := own_shape h
  exact ⟨p, n, c, e⟩
theorem nodup_le : ∀ (o l : List Dt), o.Nodup → (∀ x ∈ o, x ∈ l) → o.length ≤ l.length
  | [], _, _, _ => Nat.zero_le _
  | a :: o, l, h, hs => by
    have ha := hs a (by simp)
    have hn := List.nodup_cons.1 h
    have ih := nodup_le o (l.erase a) hn.2 fun x hx => (List.mem_erase_of_ne (fun e => hn.1 (by rw [← e]; exact hx))).2 (hs x (by simp [hx]))
    rw [List.length_erase_of_mem ha] at ih
    have := List.length_pos_of_mem ha
    rw [List.length_cons]; omega
theorem Rises.nodup {o : List Dt} (h : Rises o) : o.Nodup := List.Pairwise.imp (fun {a b} hab e => by rw [e, ltD_irrefl] at hab; cases hab) h
theorem IsTidy.small {F : Nat → Int} {l : List Dt} {G : Nat → Int} {o : List Dt} (h : IsTidy F l G o) : o.length ≤ l.length := nodup_le o l h.rises.nodup fun x hx => ((h.mem x).1 hx).1
/-- the rows that calls made, and the blocks that were made beside them -/
structure Mid (W2 : World) (R : List (List Dt × Value)) (L : List Nat) (w : World) : Prop where
  below : Below W2.heap.size W2 w
  rows : ∀ t ∈ R, w.ownsRow W2.heap.size 28 2 t.2 t.1.length (dcl t.1)
  blks : ∀ g ∈ L, Cx w g (fun _ => 0) (.slice none 0 0) ∧ W2.heap.size ≤ g
  apart : ∀ t ∈ R, ∀ g ∈ L, t.2.ownBlock ≠ some g
  nodup : L.Nodup
theorem Mid.start {W2 w : World} (h : Below W2.heap.size W2 w) : Mid W2 [] [] w := ⟨h, by simp, by simp, by simp, List.nodup_nil⟩
theorem own_blk {w : World} {B : Nat} {T : TypeId} {k n b : Nat} {v : Value} {xs : List Value} (h : w.ownsRow B T k v n xs) (hb : v.ownBlock = some b) : b < w.heap.size := by
  rcases h.2 with ⟨rfl, _⟩ | ⟨b', cap, cur, rfl, q2, q3, q4⟩
  · cases hb
  · cases hb; exact (Array.getElem?_eq_some_iff.1 q3).1
theorem Mid.call {W2 w w' : World} {R : List (List Dt × Value)} {L : List Nat} (h : Mid W2 R L w) {o : List Dt} {v : Value} (hown : w'.ownsRow w.heap.size 28 2 v o.length (dcl o)) (hb : Below w.heap.size w w') : Mid W2 ((o, v) :: R) L w' where
  below := thenBelow h.below hb
  rows t ht := by
    rcases List.mem_cons.1 ht with rfl | ht
    · exact own_down hown h.below.size
    · exact own_lat (h.rows t ht) hb
  blks g hg := ⟨(h.blks g hg).1.later hb, (h.blks g hg).2⟩
  apart t ht g hg := by
    rcases List.mem_cons.1 ht with rfl | ht
    · intro e
      have h1 := (hown.lt g e).1
      have h2 := (h.blks g hg).1.lt
      omega
    · exact h.apart t ht g hg
  nodup := h.nodup
theorem Mid.alloc {W2 w : World} {R : List (List Dt × Value)} {L : List Nat} (h : Mid W2 R L w) : Mid W2 R (w.heap.size :: L) (w.alloc (.cells (ccs (fun _ => 0) (.slice none 0 0)) 26)) where
  below := thenBelow h.below (below_alloc w _)
  rows t ht := own_lat (h.rows t ht) (below_alloc w _)
  blks g hg := by
    rcases List.mem_cons.1 hg with rfl | hg
    · exact ⟨heap_alloc_new w _, h.below.size⟩
    · exact ⟨(h.blks g hg).1.later (below_alloc w _), (h.blks g hg).2⟩
  apart t ht g hg := by
    rcases List.mem_cons.1 hg with rfl | hg
    · intro e
      have := own_blk (h.rows t ht) e
      omega
    · exact h.apart t ht g hg
  nodup := List.nodup_cons.2 ⟨fun hm => by have := (h.blks _ hm).1.lt; omega, h.nodup⟩
theorem own_keptN {w w' : World} {B : Nat} {T : TypeId} {k n g : Nat} {v : Value} {xs : List Value} (h : w.ownsRow B T k v n xs) (hg : w.grownBy w' (some g)) (hB : v.ownBlock ≠ some g) : w'.ownsRow B T k v n xs := by
  refine ⟨h.1, ?_⟩
  rcases h.2 with q | ⟨b, cap, cur, q1, q2, q3, q4⟩
  · exact .inl q
  · exact .inr ⟨b, cap, cur, q1, q2, (hg.block b (Array.getElem?_eq_some_iff.1 q3).1 (by intro e; have := Option.some.inj e; apply hB; rw [q1, ← this]; rfl)).trans q3, q4⟩
theorem Mid.stored {W2 w w' : World} {R : List (List Dt × Value)} {L : List Nat} (h : Mid W2 R L w) {g : Nat} (hg : g ∈ L) (hw : w.grownBy w' (some g)) : Below W2.heap.size W2 w' ∧ (∀ t ∈ R, w'.ownsRow W2.heap.size 28 2 t.2 t.1.length (dcl t.1)) ∧ ∀ g' ∈ L, g' ≠ g → Cx w' g' (fun _ => 0) (.slice none 0 0) :=
  ⟨h.below.trans (grown_below hw h.below.size (h.blks g hg).2), fun t ht => own_keptN (h.rows t ht) hw (h.apart t ht g hg), fun g' hg' hne => (h.blks g' hg').1.kept hw (by intro e; exact hne (Option.some.inj e))⟩
/-- two stores -/
theorem Mid.both {W2 w w7 w8 : World} {R : List (List Dt × Value)} {L : List Nat} (h : Mid W2 R L w) {gA gB : Nat} (hA : gA ∈ L) (hB : gB ∈ L) (hne : gA ≠ gB) {G G' : Nat → Int} {v v' : Value} (h7 : Cx w7 gA G v) (g7 : w.grownBy w7 (some gA)) (h8 : Cx w8 gB G' v') (g8 : w7.grownBy w8 (some gB)) :
    Below W2.heap.size W2 w8 ∧ (∀ t ∈ R, w8.ownsRow W2.heap.size 28 2 t.2 t.1.length (dcl t.1)) ∧ Cx w8 gA G v ∧ Cx w8 gB G' v' := by
  obtain ⟨a, b, _⟩ := h.stored hA g7
  refine ⟨a.trans (grown_below g8 a.size (h.blks gB hB).2), fun t ht => own_keptN (b t ht) g8 (h.apart t ht gB hB), h7.kept g8 (by simp; omega), h8⟩
section
variable {ops : Array Oper} {o : Oper} {a : Act} {w W2 : World} {Q : Exit → Act → World → Prop} {K : Act → World → Prop} {i : Nat} {R : List (List Dt × Value)} {L : List Nat}
theorem wpOp_mid_call (hM : Mid W2 R L w) (hi : ops[i]? = some o) (hw : Region.wanted o (yielded ops a.tmps) = true) (f : FuncId) (args : Array Value) (F : Nat → Int) (l : List Dt) (hrun : (execOp a.eval o).run Try.prog w = .ok (.enter f args) w)
    (hc : Calls Try.prog f args w (TidyR w F l)) (h : ∀ G d v w', IsTidy F l G d → Mid W2 ((d, v) :: R) L w' → K (a.put o.dst (.agg (ccs G v))) w') : wpOp Try.prog ops Q i K a w := by
  refine wpOp_callG hi hw f args hrun hc fun e w' he => ?_
  obtain ⟨G, d, v, hI, rfl, hown, hb⟩ := he
  exact ⟨_, rfl, h G d v w' hI (hM.call hown hb)⟩
theorem wpOp_mid_alloc (hM : Mid W2 R L w) (hi : ops[i]? = some o) (hw : Region.wanted o (yielded ops a.tmps) = true) (ho : o.op = .alloc 26)
    (h : ∀ g w', Mid W2 R (g :: L) w' → K (a.put o.dst (.pointer (some ⟨g, 0, none⟩))) w') : wpOp Try.prog ops Q i K a w := by
  refine wpOp_runTo hi hw (.pointer (some ⟨w.heap.size, 0, none⟩)) (w.alloc (.cells (ccs (fun _ => 0) (.slice none 0 0)) 26)) ?_ (h _ _ hM.alloc)
  unfold execOp
  simp only [ho, Instr.alloc, Sem.run_bind, zeroC, Result.andThen_ok]
  rfl
theorem wpOp_cstore (hi : ops[i]? = some o) (hw : Region.wanted o (yielded ops a.tmps) = true) (x y : Operand) (ho : o.op = .store 26 x y) (g : Nat) (hx : a.eval x = .pointer (some ⟨g, 0, none⟩)) (G : Nat → Int) (v : Value) (hy : a.eval y = .agg (ccs G v)) (hv : ∃ p n c, v = .slice p n c) (F0 : Nat → Int) (v0 : Value) (hr : Cx w g F0 v0)
    (h : ∀ w', Cx w' g G v → w.grownBy w' (some g) → K (a.put o.dst undef) w') : wpOp Try.prog ops Q i K a w :=
  wpOp_one hi hw (wp_store_row _ x y ho g (ccs G v) hx hy 26 (ccs F0 v0) hr (sizeC G v) (by rw [ccs_size, ccs_size]) (Array.all_eq_true_iff_forall_mem.2 (fun u hu => ccs_oneV G hv u (by simpa using hu))) (h _ (grown_setRow hr).2 (grown_setRow hr).1))
theorem wpAnyH_gload {P : Program} {t : TypeId} {md : Region.Mode} {S : World → Prop} {fuel : Nat} {listed : Array Bool} (hi : ops[i]? = some o) (hs : Region.noSelect ops = true) (hf : Region.free md ops listed i = true) (hr : (Region.ready md ops listed).contains i = true)
    (hQ : ∀ c (a : Act) w v, Q (.panic c) (a.put o.dst v) w → Q (.panic c) a w) (hw : Region.wanted o (yielded ops a.tmps) = true) (x : Operand) (ho : o.op = .load t x) (b c : Nat) (hx : a.eval x = .pointer (some ⟨b, c, none⟩)) (cs : List Value) (hrow : ∀ w, S w → w.rangeAt b c cs) (d : TypeDesc) (hu : P.underlying t = some d) (hd : d.isRow = true) (hsz : (P.info? t).map (·.size) = some cs.length) (hS : S w)
    (h : wpAnyH P md ops Q S fuel (listed.setIfInBounds i true) (a.put o.dst (.agg cs.toArray)) w) : wpAnyH P md ops Q S (fuel + 1) listed a w := by
  refine wpAnyH_take (v := .agg cs.toArray) hi hs hf hr (fun c a w => hQ c a w _) (Or.inl ⟨hw, fun w hw => ?_⟩) hS h
  unfold execOp
  simp only [ho, hx]
  exact run_value_of (run_loadAt_mid w b c t cs d (hrow w hw) hu hd hsz)
/-- the beginning: two results and two blocks, in whatever order, all ending at acts that one function gives -/
theorem wp_region_two {id n : Nat} {S : World → Prop} (Fn : (Nat → Int) → Value → (Nat → Int) → Value → Nat → Nat → World → Prop) {act : (Nat → Int) → Value → (Nat → Int) → Value → Nat → Nat → Act} {P : Program} (hm : P.follows .mixedOrders = true) (hn : ops.size = n) (hS : S w.drew)
    (h : (∀ G v G' v' gA gB w', Fn G v G' v' gA gB w' → Q .normal (act G v G' v' gA gB) w') → wpAnyH P .any ops Q S n (Array.replicate n false) a w.drew)
    (hK : ∀ G v G' v' gA gB w', Fn G v G' v' gA gB w' → Q .normal (act G v G' v' gA gB) w') : (Code.region id ops true).wp P Q a w := by
  subst hn
  exact wp_region_held_drew hm hS fun _ => h hK
end
end Go.Proofs.Ytnfknnkhabjciaa
