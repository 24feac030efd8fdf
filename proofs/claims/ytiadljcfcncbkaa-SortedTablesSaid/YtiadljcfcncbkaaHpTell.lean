/- sorted's Merge: what its heap's order tells, as long as nothing below the heap turns. -/
import Derived.Test.YtiadljcfcncbkaaHpModel
import Derived.Test.YtiadljcfcncbkaaHpPure
namespace Go.Proofs.Ytiadljcfcncbkaa
open Go Go.RowKit Hp
set_option linter.unusedVariables false

/-- lists of numbers that lie: a list of lists at bl, ol, and what each holds -/
def LLies (w : World) (bl ol : Nat) (LL : List (List Int)) : Prop := ∀ i, i < LL.length → ∃ q c, w.cell? ⟨bl, ol + i, none⟩ = some (.slice q (LL.getD i []).length c) ∧ ∀ k, k < (LL.getD i []).length → ∃ b o, q = some ⟨b, o, none⟩ ∧ w.cell? ⟨b, o + k, none⟩ = some (.int .i64 ((LL.getD i []).getD k 0))
theorem LLies.below {w w' : World} {bl ol : Nat} {LL : List (List Int)} (h : LLies w bl ol LL) (hb : Below w.heap.size w w') : LLies w' bl ol LL := fun i hi => by
  have up : ∀ (a : Addr) (v : Value), w.cell? a = some v → w'.cell? a = some v := fun a v h => (hb.cell (p := a) (World.block_lt_of_cell? w _ h)).trans h
  obtain ⟨q, c, h1, h2⟩ := h i hi
  refine ⟨q, c, up _ _ h1, fun k hk => ?_⟩
  obtain ⟨b, o, h3, h4⟩ := h2 k hk
  exact ⟨b, o, h3, up _ _ h4⟩
theorem Tell.weaken {F : FuncId} {caps : Array Value} {lt : E → E → Bool} {dom : E → Prop} {S S2 : World → Prop} (T : Tell F caps lt dom S) (h : ∀ w, S2 w → S w) : Tell F caps lt dom S2 := ⟨fun a b w h1 h2 h3 => T.tell a b w h1 h2 (h w h3), T.enter⟩
/-- the lists that are not at their end -/
def domM (LL : List (List Int)) (at_ : List Nat) (i : Int) : Prop := ∃ I : Nat, i = (I : Int) ∧ I < LL.length ∧ at_.getD I 0 < (LL.getD I []).length
/-- what Merge has laid ahead of its heap -/
structure MLaid (w : World) (bl ol cl : Nat) (LL : List (List Int)) (L : FuncId) (caps : Array Value) (at_ : List Nat) (W : World) : Prop where
  less : InBox w.heap.size L caps W
  lists : W.heap[w.heap.size + 1]? = some (Obj.cells #[.slice (some ⟨bl, ol, none⟩) LL.length cl] 66 (0, 0))
  row : ∃ cs, W.heap[w.heap.size + 2]? = some (Obj.cells cs 3 (0, 0)) ∧ ∀ i, i < LL.length → cs[i]? = some (.int .i64 (at_.getD i 0 : Nat))
  ats : W.heap[w.heap.size + 3]? = some (Obj.cells #[.slice (some ⟨w.heap.size + 2, 0, none⟩) LL.length LL.length] 24 (0, 0))
  ord : InBox (w.heap.size + 4) 60 #[.pointer (some ⟨w.heap.size + 1, 0, none⟩), .pointer (some ⟨w.heap.size + 3, 0, none⟩), .pointer (some ⟨w.heap.size, 0, none⟩)] W
  bel : Below w.heap.size w W
theorem MLaid.below {w : World} {bl ol cl : Nat} {LL : List (List Int)} {L : FuncId} {caps : Array Value} {at_ : List Nat} {W V : World} (m : MLaid w bl ol cl LL L caps at_ W) (h : Below (w.heap.size + 5) W V) : MLaid w bl ol cl LL L caps at_ V := by
  obtain ⟨cs, h1, h2⟩ := m.row
  exact ⟨(h.block _ (by omega)).trans m.less, (h.block _ (by omega)).trans m.lists, ⟨cs, (h.block _ (by omega)).trans h1, h2⟩, (h.block _ (by omega)).trans m.ats, (h.block _ (by omega)).trans m.ord, m.bel.trans (h.mono (by omega))⟩
theorem merge_tell (bl ol cl : Nat) (LL : List (List Int)) (L : FuncId) (caps : Array Value) (lt : Int → Int → Bool) (domL : Int → Prop) (S : World → Prop) (T : TellI L caps lt domL S) (w : World) (hS : Low w.heap.size S) (hs : S w) (hl : LLies w bl ol LL) (hdl : ∀ l ∈ LL, ∀ x ∈ l, domL x) (at_ : List Nat) (W : World) (m : MLaid w bl ol cl LL L caps at_ W) :
    Tell 69 #[.pointer (some ⟨w.heap.size + 4, 0, none⟩)] (mlt lt LL at_) (fun e => domM LL at_ e.1) (fun V => Below (w.heap.size + 5) W V) := by
  have hW5 : w.heap.size + 5 ≤ W.heap.size := by have := (Array.getElem?_eq_some_iff.1 m.ord).1; omega
  have T1 : TellI L caps lt domL (fun V => Below (w.heap.size + 5) W V) := ⟨fun a b V h1 h2 h3 => T.tell a b V h1 h2 (hS w V hs (m.below h3).bel), T.enter⟩
  have st : ∀ V V', Below (w.heap.size + 5) W V → Below V.heap.size V V' → Below (w.heap.size + 5) W V' := fun V V' h k => h.trans (k.mono (by have := h.size; omega))
  have T2 := heads_tell (w.heap.size + 1) (w.heap.size + 3) w.heap.size (hdOf LL at_) (domM LL at_) L caps lt domL _ T1 st (fun i ⟨I, hi, h1, h2⟩ => by
    subst hi
    unfold hdOf
    rw [Int.toNat_natCast]
    have e1 : LL.getD I [] = LL[I] := by simp [List.getD, List.getElem?_eq_getElem h1]
    rw [e1] at h2 ⊢
    have e2 : ∀ j (h : j < LL[I].length), LL[I].getD j 0 = LL[I][j] := fun j h => by simp [List.getD, List.getElem?_eq_getElem h]
    rw [e2 _ h2]
    exact hdl _ (List.getElem_mem h1) _ (List.getElem_mem h2))
  have T3 := steady_tell 60 _ _ _ _ T2 (fun V V' h k => ⟨st V V' h.1 k, h.2.1.below k, (k.block _ (Array.getElem?_eq_some_iff.1 h.2.2).1).trans h.2.2⟩) (w.heap.size + 4)
  refine Tell.weaken T3 (fun V h => ?_)
  have mV := m.below h
  refine ⟨⟨h, ?_, mV.less⟩, mV.ord⟩
  rintro i ⟨I, rfl, h1, h2⟩
  obtain ⟨q, c, l1, l2⟩ := (hl.below mV.bel) I h1
  obtain ⟨b, o, rfl, l4⟩ := l2 _ h2
  obtain ⟨cs, r1, r2⟩ := mV.row
  refine ⟨I, at_.getD I 0, bl, ol, LL.length, cl, w.heap.size + 2, 0, LL.length, LL.length, b, o, (LL.getD I []).length, c, rfl, ?_, h1, l1, ?_, h1, ?_, h2, ?_⟩
  · exact (cell_of_row V (w.heap.size + 1) 0 _ _ _ mV.lists).trans rfl
  · exact (cell_of_row V (w.heap.size + 3) 0 _ _ _ mV.ats).trans rfl
  · rw [Nat.zero_add]; exact (cell_of_row V (w.heap.size + 2) I _ _ _ r1).trans (r2 I h1)
  · rw [l4]; unfold hdOf; rw [Int.toNat_natCast]
end Go.Proofs.Ytiadljcfcncbkaa
