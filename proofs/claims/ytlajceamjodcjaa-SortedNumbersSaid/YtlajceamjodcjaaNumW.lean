/- SortedNumbers: a table and a map beside it. -/
import Derived.Test.YtlajceamjodcjaaTabI
import Derived.Test.YtlajceamjodcjaaMapI
import Derived.Test.YtlajceamjodcjaaSrtAwake
namespace Go.Proofs.Ytlajceamjodcjaa
open Go Go.RowKit Hp
set_option linter.unusedVariables false
set_option maxRecDepth 100000

structure NumW (n0 : Nat) (K V : List Int) (ml : List (Int × Value × Nat)) (c : Nat) (w : World) : Prop where
  tab : TabI (n0 + 2) n0 K V w
  map : w.heap[n0 + 1]? = some (.map (ents ml).toArray c)
  has : MapI ml K V
  rise : Rise K
  len : V.length = K.length
theorem NumW.lt {n0 c : Nat} {K V : List Int} {ml : List (Int × Value × Nat)} {w : World} (h : NumW n0 K V ml c w) : n0 + 2 ≤ w.heap.size := (Array.getElem?_eq_some_iff.1 h.map).1
theorem NumW.below {n0 c : Nat} {K V : List Int} {ml : List (Int × Value × Nat)} {w w' : World} (h : NumW n0 K V ml c w) (hb : Below w.heap.size w w') : NumW n0 K V ml c w' :=
  ⟨h.tab.below hb, (hb.block _ (Array.getElem?_eq_some_iff.1 h.map).1).trans h.map, h.has, h.rise, h.len⟩
theorem NumW.mapLen {n0 c : Nat} {K V : List Int} {ml : List (Int × Value × Nat)} {w : World} (h : NumW n0 K V ml c w) : (ents ml).toArray.size = K.length := by
  have := h.has.len h.rise
  simpa [ents] using this
theorem tabI_map {a : Nat} {K V : List Int} {w : World} (h : TabI (a + 2) a K V w) (ob : Obj) : TabI (a + 2) a K V (mapTo w (a + 1) ob) := by
  obtain ⟨vk, vv, h1, h2, h3, h4⟩ := h
  have g := mapTo_grown w (a + 1) ob
  have ne : ∀ v : Value, ∀ n xs, w.ownsRow (a + 2) 3 1 v n xs → v.ownBlock = none ∨ v.ownBlock ≠ some (a + 1) := fun v n xs ho => .inr (fun e => by have := (ho.lt _ e).1; omega)
  exact ⟨vk, vv, (g.block a (Array.getElem?_eq_some_iff.1 h1).1 (by simp)).trans h1, World.ownsRow.kept h2 g (ne _ _ _ h2), World.ownsRow.kept h3 g (ne _ _ _ h3), h4⟩
theorem NumW.put {n0 c : Nat} {K V : List Int} {ml : List (Int × Value × Nat)} {w w2 : World} (h : NumW n0 K V ml c w) (x y : Int) (ht : TabI (n0 + 2) n0 (keyPut K x) (valPut K V x y) w2) (hm : MapsStay w w2) :
    ∃ ob ml' c', (Instr.mapUpdate 48 (.map (some (n0 + 1))) (.int .i64 x) (.int .i64 y)).run Try.prog w2 = .ok () (mapTo w2 (n0 + 1) ob) ∧ NumW n0 (keyPut K x) (valPut K V x y) ml' c' (mapTo w2 (n0 + 1) ob) := by
  have hmap := hm _ _ _ h.map
  have keyI : Try.prog.underlying 3 = some (.int .i64) := by kernel_rfl
  by_cases hx : x ∈ K
  · obtain ⟨l1, l2, v, b, rfl, h1, h2, _⟩ := h.has.split hx
    exact ⟨_, _, _, run_update_here Try.underlying48 keyI x _ _ b l1 l2 hmap h1, tabI_map ht _, mapTo_at hmap, h.has.put_here h.rise h.len h1 h2, rise_put h.rise x, valPut_len h.len x y⟩
  · have hne : ∀ e ∈ ml, e.1 ≠ x := fun e he e1 => hx ((h.has.mem x).1 (List.mem_map.2 ⟨e, he, e1⟩))
    exact ⟨_, _, _, run_update_absent Try.underlying48 keyI hmap x _ hne, tabI_map ht _, mapTo_at hmap, h.has.put_new h.rise h.len hx, rise_put h.rise x, valPut_len h.len x y⟩
theorem NumW.get {n0 c : Nat} {K V : List Int} {ml : List (Int × Value × Nat)} {w : World} (h : NumW n0 K V ml c w) (x : Int) (hx : x ∈ K) :
    (Instr.lookup 48 (.map (some (n0 + 1))) (.int .i64 x) false).run Try.prog w = .ok (.int .i64 (V.getD (posI K x) 0)) w := by
  have keyI : Try.prog.underlying 3 = some (.int .i64) := by kernel_rfl
  have hmap := h.map
  obtain ⟨l1, l2, v, b, rfl, h1, h2, h3⟩ := h.has.split hx
  unfold tabAt at h3
  rw [if_pos hx] at h3
  injection h3 with h3
  rw [h3]
  exact run_lookup1_here Try.underlying48 keyI x _ b l1 l2 hmap h1
end Go.Proofs.Ytlajceamjodcjaa
