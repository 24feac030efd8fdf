/- The statement StandingPatches, proved for every input that its row reads: part 11 of 54. -/
import Derived.Test.YtnjopndkommjnaaDoorCellsG
import Derived.Test.YtnjopndkommjnaaDoorStrMap
import Derived.Test.YtnjopndkommjnaaDoorPackStandingPatches10
/- standing: a table of scores by names, as the program holds it. -/
namespace Go.Proofs.YtnjopndkommjnaaDoor
open Go Go.RowKit
set_option linter.unusedVariables false
set_option maxRecDepth 1000000

def icl (l : List Int) : List Value := l.map fun s => .int .i64 s
theorem icl_len (l : List Int) : (icl l).length = l.length := by simp [icl]
theorem icl_one (l : List Int) : ∀ u ∈ icl l, u.oneCell' = true := by
  intro u hu
  obtain ⟨s, _, rfl⟩ := List.mem_map.1 hu
  rfl
theorem icl_append (a b : List Int) : icl (a ++ b) = icl a ++ icl b := by simp [icl]
/-- the map at r holds of each name its scores -/
structure NmT (w : World) (r c : Nat) (es : List (ByteArray × Value × Nat)) (f : ByteArray → List Int) : Prop where
  blk : w.heap[r]? = some (.map (sents es).toArray c)
  ids : (es.map (·.1)).Nodup
  own : ∀ e ∈ es, w.ownsRow (r + 1) 3 1 e.2.1 (f e.1).length (icl (f e.1))
  apart : es.Pairwise fun a b => a.2.1.ownBlock ≠ b.2.1.ownBlock
  full : ∀ e ∈ es, f e.1 ≠ []
  rest : ∀ id, id ∉ es.map (·.1) → f id = []
  old : ∀ e ∈ es, e.2.2 < c
  born : (es.map (·.2.2)).Nodup
theorem NmT.lt {w : World} {r c : Nat} {es : List (ByteArray × Value × Nat)} {f : ByteArray → List Int} (h : NmT w r c es f) : r < w.heap.size := (Array.getElem?_eq_some_iff.1 h.blk).1
theorem NmT.later {w w' : World} {r c : Nat} {es : List (ByteArray × Value × Nat)} {f : ByteArray → List Int} (h : NmT w r c es f) (hb : Below w.heap.size w w') : NmT w' r c es f :=
  ⟨(hb.block r h.lt).trans h.blk, h.ids, fun e he => own_later (h.own e he) hb, h.apart, h.full, h.rest, h.old, h.born⟩
theorem NmT.keys {w : World} {r c : Nat} {es : List (ByteArray × Value × Nat)} {f : ByteArray → List Int} (h : NmT w r c es f) (id : ByteArray) : id ∈ es.map (·.1) ↔ f id ≠ [] := by
  constructor
  · intro hi
    obtain ⟨e, he, rfl⟩ := List.mem_map.1 hi
    exact h.full e he
  · intro hf
    exact Classical.byContradiction fun q => hf (h.rest id q)
theorem nm_new (w : World) : NmT (w.alloc (.map #[] 0)) w.heap.size 0 [] (fun _ => []) :=
  ⟨heap_alloc_new w _, List.nodup_nil, (fun e he => by cases he), List.Pairwise.nil, (fun e he => by cases he), (fun _ _ => rfl), (fun e he => by cases he), List.nodup_nil⟩
theorem split_atS (d : ByteArray) : ∀ (l : List (ByteArray × Value × Nat)), d ∈ l.map (·.1) → ∃ l1 v b l2, l = l1 ++ (d, v, b) :: l2 ∧ ∀ e ∈ l1, e.1 ≠ d
  | [], h => by simp at h
  | e :: l, h => by
    by_cases he : e.1 = d
    · exact ⟨[], e.2.1, e.2.2, l, by rw [← he]; rfl, fun x hx => by simp at hx⟩
    · obtain ⟨l1, v, b, l2, h1, h2⟩ := split_atS d l (by
        rw [List.map_cons] at h
        rcases List.mem_cons.1 h with h | h
        · exact absurd h.symm he
        · exact h)
      exact ⟨e :: l1, v, b, l2, by rw [h1]; rfl, fun x hx => by
        rcases List.mem_cons.1 hx with rfl | hx
        · exact he
        · exact h2 x hx⟩
theorem absent_ofS {d : ByteArray} {l : List (ByteArray × Value × Nat)} (h : d ∉ l.map (·.1)) : ∀ e ∈ l, e.1 ≠ d := fun e he q => h (List.mem_map.2 ⟨e, he, q⟩)
/-- what stands by a name -/
inductive NmAt (es : List (ByteArray × Value × Nat)) (id : ByteArray) : Value → Prop
  | here (l1 : List (ByteArray × Value × Nat)) (v : Value) (b : Nat) (l2 : List (ByteArray × Value × Nat)) (h : es = l1 ++ (id, v, b) :: l2) (hl : ∀ e ∈ l1, e.1 ≠ id) : NmAt es id v
  | none (h : id ∉ es.map (·.1)) : NmAt es id (.slice Option.none 0 0)
theorem zeroSl (w : World) : (zeroValue 45).run Tryd.prog w = .ok (.slice none 0 0) w := by kernel_rfl
theorem NmT.look {w : World} {r c : Nat} {es : List (ByteArray × Value × Nat)} {f : ByteArray → List Int} (h : NmT w r c es f) (id : ByteArray) :
    ∃ v, NmAt es id v ∧ w.ownsRow (r + 1) 3 1 v (f id).length (icl (f id)) ∧ ∀ U : World, Below w.heap.size w U → (Instr.lookup 43 (.map (some r)) (.string id) false).run Tryd.prog U = .ok v U := by
  by_cases hi : id ∈ es.map (·.1)
  · obtain ⟨l1, v, b, l2, rfl, hl⟩ := split_atS id es hi
    refine ⟨v, .here l1 v b l2 rfl hl, h.own (id, v, b) (by simp), fun U hU => ?_⟩
    exact run_slookup1_here Tryd.underlying43 Tryd.underlying9 id v b l1 l2 (h.later hU).blk hl
  · refine ⟨_, .none hi, ?_, fun U hU => ?_⟩
    · rw [h.rest id hi]; exact ⟨rfl, .inl ⟨rfl, rfl⟩⟩
    · exact run_slookup1_absent Tryd.underlying43 Tryd.underlying9 (zeroSl U) (h.later hU).blk id (absent_ofS hi)
/-- a table with one name's scores changed -/
def updT (f : ByteArray → List Int) (id : ByteArray) (ys : List Int) : ByteArray → List Int := fun x => if x = id then ys else f x
theorem NmT.upd {w wb : World} {r c : Nat} {es : List (ByteArray × Value × Nat)} {f : ByteArray → List Int} (h : NmT w r c es f) {id : ByteArray} {v : Value} (hv : NmAt es id v) (hg : w.grownBy wb v.ownBlock) {nv : Value} {ys : List Int} (hys : ys ≠ [])
    (hown : wb.ownsRow (r + 1) 3 1 nv ys.length (icl ys)) (hfr : nv.ownBlock = v.ownBlock ∨ ∃ g, nv.ownBlock = some g ∧ w.heap.size ≤ g) (hne : nv.ownBlock ≠ Option.none) :
    ∃ w9 es' c', (Instr.mapUpdate 43 (.map (some r)) (.string id) nv).run Tryd.prog wb = .ok () w9 ∧ NmT w9 r c' es' (updT f id ys) ∧ wb.grownBy w9 (some r) := by
  have hrl := h.lt
  have hlts : ∀ e ∈ es, ∀ k, e.2.1.ownBlock = some k → r + 1 ≤ k ∧ k < w.heap.size := fun e he k hk => (h.own e he).lt k hk
  -- rows of other names stay
  have stay : ∀ (o : Obj) (e : ByteArray × Value × Nat), e ∈ es → e.2.1.ownBlock ≠ v.ownBlock ∨ v.ownBlock = Option.none → (smapTo wb r o).ownsRow (r + 1) 3 1 e.2.1 (f e.1).length (icl (f e.1)) := fun o e he hq =>
    own_blk (h.own e he) fun k hk => by
      obtain ⟨h1, h2⟩ := hlts e he k hk
      have e1 : wb.heap[k]? = w.heap[k]? := hg.block k h2 (by
        intro e2
        rcases hq with hq | hq
        · exact hq (by rw [hk]; exact e2)
        · rw [hq] at e2; cases e2)
      rw [← e1]
      show (wb.heap.setIfInBounds r o)[k]? = wb.heap[k]?
      rw [Array.getElem?_setIfInBounds, if_neg (by omega)]
  have mine : ∀ (o : Obj), (smapTo wb r o).ownsRow (r + 1) 3 1 nv ys.length (icl ys) := fun o =>
    own_blk hown fun k hk => by
      have h1 := (hown.lt k hk).1
      show (wb.heap.setIfInBounds r o)[k]? = wb.heap[k]?
      rw [Array.getElem?_setIfInBounds, if_neg (by omega)]
  have fresh : ∀ e ∈ es, e.2.1.ownBlock ≠ v.ownBlock ∨ v.ownBlock = Option.none → e.2.1.ownBlock ≠ nv.ownBlock := fun e he hq e1 => by
    rcases hfr with e2 | ⟨g, e2, e3⟩
    · rcases hq with hq | hq
      · exact hq (e1.trans e2)
      · exact hne (e2.trans hq)
    · have := (hlts e he g (e1.trans e2)).2
      omega
  have hrow : some r ≠ v.ownBlock := by
    cases hv with
    | here l1 v b l2 he hl =>
      intro e1
      have := (hlts (id, v, b) (by rw [he]; simp) r e1.symm).1
      omega
    | none hi => simp [Value.ownBlock]
  have hblk : wb.heap[r]? = some (.map (sents es).toArray c) := (hg.block r hrl hrow).trans h.blk
  cases hv with
  | here l1 v b l2 he hl =>
    subst he
    have hp := List.pairwise_append.1 h.apart
    have hp2 := List.pairwise_cons.1 hp.2.1
    have hnd : (l1.map (·.1) ++ id :: l2.map (·.1)).Nodup := by have := h.ids; rwa [List.map_append, List.map_cons] at this
    have hl2 : ∀ e ∈ l2, e.1 ≠ id := fun e he q => by
      have h1 := (List.nodup_append.1 hnd).2.1
      exact (List.nodup_cons.1 h1).1 (List.mem_map.2 ⟨e, he, q⟩)
    have ne1 : ∀ e ∈ l1, e.2.1.ownBlock ≠ v.ownBlock := fun e he => hp.2.2 e he (id, v, b) (by simp)
    have ne2 : ∀ e ∈ l2, e.2.1.ownBlock ≠ v.ownBlock := fun e he q => hp2.1 e he q.symm
    refine ⟨_, l1 ++ (id, nv, b) :: l2, c, run_supdate_here Tryd.underlying43 Tryd.underlying9 id v nv b l1 l2 hblk hl, ⟨smapTo_at hblk, ?_, ?_, ?_, ?_, ?_, ?_, ?_⟩, smapTo_grown _ _ _⟩
    · have := h.ids
      rw [List.map_append, List.map_cons] at this ⊢
      exact this
    · intro e he
      rw [List.mem_append, List.mem_cons] at he
      rcases he with he | rfl | he
      · rw [show updT f id ys e.1 = f e.1 from if_neg (hl e he)]
        exact stay _ e (by simp [he]) (.inl (ne1 e he))
      · rw [show updT f id ys id = ys from if_pos rfl]
        exact mine _
      · rw [show updT f id ys e.1 = f e.1 from if_neg (hl2 e he)]
        exact stay _ e (by simp [he]) (.inl (ne2 e he))
    · refine List.pairwise_append.2 ⟨hp.1, List.pairwise_cons.2 ⟨fun e he q => fresh e (by simp [he]) (.inl (ne2 e he)) q.symm, hp2.2⟩, fun e he e' he' => ?_⟩
      rcases List.mem_cons.1 he' with rfl | he'
      · exact fresh e (by simp [he]) (.inl (ne1 e he))
      · exact hp.2.2 e he e' (by simp [he'])
    · intro e he
      rw [List.mem_append, List.mem_cons] at he
      rcases he with he | rfl | he
      · rw [show updT f id ys e.1 = f e.1 from if_neg (hl e he)]; exact h.full e (by simp [he])
      · rw [show updT f id ys id = ys from if_pos rfl]; exact hys
      · rw [show updT f id ys e.1 = f e.1 from if_neg (hl2 e he)]; exact h.full e (by simp [he])
    · intro x hx
      rw [List.map_append, List.map_cons, List.mem_append, List.mem_cons] at hx
      have h1 : x ≠ id := fun q => hx (.inr (.inl q))
      rw [show updT f id ys x = f x from if_neg h1]
      exact h.rest x (by rw [List.map_append, List.map_cons, List.mem_append, List.mem_cons]; exact hx)
    · intro e he
      rw [List.mem_append, List.mem_cons] at he
      rcases he with he | rfl | he
      · exact h.old e (by simp [he])
      · exact h.old (id, v, b) (by simp)
      · exact h.old e (by simp [he])
    · have := h.born
      rw [List.map_append, List.map_cons] at this ⊢
      exact this
  | none hi =>
    have hab := absent_ofS hi
    have hq : ∀ e : ByteArray × Value × Nat, e.2.1.ownBlock ≠ (Value.slice Option.none 0 0).ownBlock ∨ (Value.slice Option.none 0 0).ownBlock = Option.none := fun e => .inr rfl
    refine ⟨_, es ++ [(id, nv, c)], c + 1, run_supdate_absent Tryd.underlying43 Tryd.underlying9 hblk id nv hab, ⟨smapTo_at hblk, ?_, ?_, ?_, ?_, ?_, ?_, ?_⟩, smapTo_grown _ _ _⟩
    · rw [List.map_append]
      refine List.nodup_append.2 ⟨h.ids, by simp, fun a ha b hb q => ?_⟩
      simp at hb
      subst hb; subst q
      exact hi ha
    · intro e he
      rw [List.mem_append, List.mem_singleton] at he
      rcases he with he | rfl
      · rw [show updT f id ys e.1 = f e.1 from if_neg (hab e he)]
        exact stay _ e he (hq e)
      · rw [show updT f id ys id = ys from if_pos rfl]
        exact mine _
    · refine List.pairwise_append.2 ⟨h.apart, by simp, fun e he e' he' => ?_⟩
      rw [List.mem_singleton.1 he']
      exact fresh e he (hq e)
    · intro e he
      rw [List.mem_append, List.mem_singleton] at he
      rcases he with he | rfl
      · rw [show updT f id ys e.1 = f e.1 from if_neg (hab e he)]; exact h.full e he
      · rw [show updT f id ys id = ys from if_pos rfl]; exact hys
    · intro x hx
      rw [List.map_append, List.mem_append] at hx
      have h1 : x ≠ id := fun q => hx (.inr (by simp [q]))
      rw [show updT f id ys x = f x from if_neg h1]
      exact h.rest x fun q => hx (.inl q)
    · intro e he
      rw [List.mem_append, List.mem_singleton] at he
      rcases he with he | rfl
      · exact Nat.lt_succ_of_lt (h.old e he)
      · exact Nat.lt_succ_self _
    · rw [List.map_append]
      refine List.nodup_append.2 ⟨h.born, by simp, fun a ha b hb q => ?_⟩
      simp at hb
      subst hb; subst q
      obtain ⟨e, he, h1⟩ := List.mem_map.1 ha
      have := h.old e he
      omega
/-- a name taken away -/
theorem NmT.del {w : World} {r c : Nat} {es : List (ByteArray × Value × Nat)} {f : ByteArray → List Int} (h : NmT w r c es f) (id : ByteArray) (ty : TypeId) :
    ∃ w9 es', (Builtin.delete_ #[43, 9] ty #[.map (some r), .string id]).run Tryd.prog w = .ok (.tuple #[]) w9 ∧ NmT w9 r c es' (updT f id []) ∧ w.grownBy w9 (some r) := by
  have hlts : ∀ e ∈ es, ∀ k, e.2.1.ownBlock = some k → r + 1 ≤ k ∧ k < w.heap.size := fun e he k hk => (h.own e he).lt k hk
  have stay : ∀ (o : Obj) (e : ByteArray × Value × Nat), e ∈ es → (smapTo w r o).ownsRow (r + 1) 3 1 e.2.1 (f e.1).length (icl (f e.1)) := fun o e he =>
    own_blk (h.own e he) fun k hk => by
      have h1 := (hlts e he k hk).1
      show (w.heap.setIfInBounds r o)[k]? = w.heap[k]?
      rw [Array.getElem?_setIfInBounds, if_neg (by omega)]
  by_cases hi : id ∈ es.map (·.1)
  · obtain ⟨l1, v, b, l2, rfl, hl⟩ := split_atS id es hi
    have hnd : (l1.map (·.1) ++ id :: l2.map (·.1)).Nodup := by have := h.ids; rwa [List.map_append, List.map_cons] at this
    have hl2 : ∀ e ∈ l2, e.1 ≠ id := fun e he q => by
      have h1 := (List.nodup_append.1 hnd).2.1
      exact (List.nodup_cons.1 h1).1 (List.mem_map.2 ⟨e, he, q⟩)
    have hne : ∀ e ∈ l1 ++ l2, e.1 ≠ id ∧ e ∈ l1 ++ (id, v, b) :: l2 := fun e he => by
      rcases List.mem_append.1 he with he | he
      · exact ⟨hl e he, by simp [he]⟩
      · exact ⟨hl2 e he, by simp [he]⟩
    have hsub : (l1 ++ l2).Sublist (l1 ++ (id, v, b) :: l2) := List.Sublist.append (List.Sublist.refl _) (List.sublist_cons_self _ _)
    refine ⟨_, l1 ++ l2, run_sdelete_here Tryd.underlying43 Tryd.underlying9 id v b l1 l2 h.blk hl ty, ⟨smapTo_at h.blk, ?_, ?_, ?_, ?_, ?_, ?_, ?_⟩, smapTo_grown _ _ _⟩
    · exact List.Nodup.sublist (hsub.map _) h.ids
    · intro e he
      rw [show updT f id [] e.1 = f e.1 from if_neg (hne e he).1]
      exact stay _ e (hne e he).2
    · exact List.Pairwise.sublist hsub h.apart
    · intro e he
      rw [show updT f id [] e.1 = f e.1 from if_neg (hne e he).1]
      exact h.full e (hne e he).2
    · intro x hx
      by_cases hxi : x = id
      · rw [hxi]; exact if_pos rfl
      · rw [show updT f id [] x = f x from if_neg hxi]
        refine h.rest x fun q => hx ?_
        rw [List.map_append, List.map_cons, List.mem_append, List.mem_cons] at q
        rw [List.map_append, List.mem_append]
        rcases q with q | q | q
        · exact .inl q
        · exact absurd q hxi
        · exact .inr q
    · intro e he
      exact h.old e (hne e he).2
    · exact List.Nodup.sublist (hsub.map _) h.born
  · have hab := absent_ofS hi
    refine ⟨_, es, run_sdelete_absent Tryd.underlying43 Tryd.underlying9 h.blk id hab ty, ⟨smapTo_at h.blk, h.ids, ?_, h.apart, ?_, ?_, h.old, h.born⟩, smapTo_grown _ _ _⟩
    · intro e he
      rw [show updT f id [] e.1 = f e.1 from if_neg (hab e he)]
      exact stay _ e he
    · intro e he
      rw [show updT f id [] e.1 = f e.1 from if_neg (hab e he)]; exact h.full e he
    · intro x hx
      by_cases hxi : x = id
      · rw [hxi]; exact if_pos rfl
      · rw [show updT f id [] x = f x from if_neg hxi]; exact h.rest x hx
end Go.Proofs.YtnjopndkommjnaaDoor
