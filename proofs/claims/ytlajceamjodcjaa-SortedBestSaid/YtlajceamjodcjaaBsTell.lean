/- sorted's best ones: the order turned round; NewBest. -/
import Derived.Test.YtlajceamjodcjaaHpNew
import Derived.Test.YtlajceamjodcjaaHpPush
namespace Go.Proofs.Ytlajceamjodcjaa
open Go Go.RowKit Hp
set_option linter.unusedVariables false

def InBoxE (b : Nat) (F : FuncId) (caps : Array Value) (w : World) : Prop := w.heap[b]? = some (Obj.cells #[.func (.func F) #[] caps] 71 (0, 0))
set_option maxHeartbeats 4000000 in
set_option maxRecDepth 100000 in
theorem behind_tell (F : FuncId) (caps : Array Value) (lt : E → E → Bool) (dom : E → Prop) (S : World → Prop) (T : Tell F caps lt dom S) (hS : ∀ w w', S w → Below w.heap.size w w' → S w') (b : Nat) :
    Tell 58 #[.pointer (some ⟨b, 0, none⟩)] (fun x y => lt y x) dom (fun w => S w ∧ InBoxE b F caps w) := by
  refine ⟨?_, fun args w => by kernel_rfl⟩
  rintro ⟨x, t⟩ ⟨y, u⟩ w hx hy ⟨hs, hb⟩
  have TT := Lib.hid T; have HS := Lib.hid hS; have SW := Lib.hid hs; have HB := Lib.hid hb; have DX := Lib.hid hx; have DY := Lib.hid hy
  clear T hS hs hb hx hy
  show Calls Try.prog 58 #[.agg #[.int .i64 x, .int .i64 t], .agg #[.int .i64 y, .int .i64 u], .pointer (some ⟨b, 0, none⟩)] w _
  have he := TT.out.enter
  go_enter Try.func58, Try.ntmps58
  go_upto_region 1 with fail
  have h3 := heap_alloc_new w (.cells #[.int .i64 x, .int .i64 t] 89)
  have h4 := heap_alloc_new (w.alloc (.cells #[.int .i64 x, .int .i64 t] 89)) (.cells #[.int .i64 y, .int .i64 u] 89)
  have h3' := (Below.heap_alloc (w.alloc (.cells #[.int .i64 x, .int .i64 t] 89)) (.cells #[.int .i64 y, .int .i64 u] 89) _ (Array.getElem?_eq_some_iff.1 h3).1).trans h3
  have hb0 : Below w.heap.size w ((w.alloc (.cells #[.int .i64 x, .int .i64 t] 89)).alloc (.cells #[.int .i64 y, .int .i64 u] 89)) := ((Below.refl _ w).alloc (Nat.le_refl _) _).alloc (by simp) _
  rw [World.size_alloc] at h4
  generalize (w.alloc (.cells #[.int .i64 x, .int .i64 t] 89)).alloc (.cells #[.int .i64 y, .int .i64 u] 89) = w1 at h3' h4 hb0 ⊢
  have S1 := Lib.hid (HS.out _ _ SW.out hb0)
  have B1 : InBoxE b F caps w1 := (hb0.block b (Array.getElem?_eq_some_iff.1 HB.out).1).trans HB.out
  have BW := Lib.hid hb0
  obtain ⟨n, hn⟩ : ∃ n, n = w.heap.size := ⟨_, rfl⟩
  rw [← hn] at h3' h4 ⊢
  clear h3 hb0 SW HB hn
  have c0 := (cell_of_row w1 b 0 _ _ _ B1).trans (show _ = some (.func (.func F) #[] caps) from rfl)
  have c1 := (cell_of_row w1 n 0 _ _ _ h3').trans (show _ = some (Value.int .i64 x) from rfl)
  have c2 := (cell_of_row w1 n 1 _ _ _ h3').trans (show _ = some (Value.int .i64 t) from rfl)
  have c3 := (cell_of_row w1 (n + 1) 0 _ _ _ h4).trans (show _ = some (Value.int .i64 y) from rfl)
  have c4 := (cell_of_row w1 (n + 1) 1 _ _ _ h4).trans (show _ = some (Value.int .i64 u) from rfl)
  clear h3' h4 B1
  go_wp2_with fail
  obtain ⟨p, hp⟩ : ∃ p, p = lt (y, u) (x, t) := ⟨_, rfl⟩
  have HP := Lib.hid hp
  have TL := TT.out.tell (y, u) (x, t) w1 DY.out DX.out S1.out
  rw [← hp] at TL
  clear hp
  refine TL.mono ?_
  rintro e w2 ⟨rfl, hb2⟩
  have B2 := Lib.hid (thenBelow BW.out hb2)
  clear c0 c1 c2 c3 c4 hb2 TL
  go_wp2_with fail
  go_ret
  exact ⟨ret_bool HP.out, B2.out⟩
theorem run_storeFn (P : Program) (w : World) (a : Addr) (f : Fn) (b c : Array Value) (m : Mode) : (store a (.func f b c) m).run P w = stored P w a (.func f b c) m := run_store P w a _ m rfl
/-- a best one at H, its entries in a row from B on -/
def BestAt (B H : Nat) (k : Int) (F : FuncId) (caps : Array Value) (l : List E) (turn : Nat) (w : World) : Prop :=
  ∃ v, w.heap[H]? = some (Obj.cells #[.int .i64 k, .func (.func F) #[] caps, v, .int .i64 (turn : Int)] 77 (0, 0)) ∧ w.ownsRow B 89 2 v l.length (pc (ecs l))
set_option maxRecDepth 100000 in
theorem newBest_is (k : Int) (L : FuncId) (caps : Array Value) (w : World) : Calls Try.prog 37 #[.int .i64 k, .func (.func L) #[] caps] w fun e w' => e = .returned (.pointer (some ⟨w.heap.size + 2, 0, none⟩)) ∧ InBox w.heap.size L caps w' ∧ InBoxE (w.heap.size + 1) 69 #[.pointer (some ⟨w.heap.size, 0, none⟩)] w' ∧ BestAt (w.heap.size + 2) (w.heap.size + 2) k 58 #[.pointer (some ⟨w.heap.size + 1, 0, none⟩)] [] 0 w' ∧ Below w.heap.size w w' ∧ w'.heap.size = w.heap.size + 3 := by
  have hne : ∀ w : World, (binOp .eql 49 (.func (.func L) #[] caps) .nilFunc).run Try.prog w = .ok (.bool false) w := fun w => by kernel_rfl
  go_enter Try.func37, Try.ntmps37
  go_wp2_with fail
  refine (newSteady_is L caps w).mono ?_
  rintro e w1 ⟨rfl, rfl⟩
  have h0 := heap_alloc_new w (.cells #[.func (.func L) #[] caps] 49)
  have hb1 : Below w.heap.size w (w.alloc (.cells #[.func (.func L) #[] caps] 49)) := (Below.refl _ w).alloc (Nat.le_refl _) _
  have hz1 : (w.alloc (.cells #[.func (.func L) #[] caps] 49)).heap.size = w.heap.size + 1 := by simp
  generalize w.alloc (.cells #[.func (.func L) #[] caps] 49) = w1 at h0 hb1 hz1 ⊢
  have h1 := heap_alloc_new w1 (.cells #[.nilFunc] 71)
  have h0' := (Below.heap_alloc w1 (.cells #[.nilFunc] 71) _ (Array.getElem?_eq_some_iff.1 h0).1).trans h0
  have c1 := (cell_of_row _ w1.heap.size 0 _ _ _ h1).trans (show _ = some Value.nilFunc from rfl)
  have f1 := frozen_of_row _ w1.heap.size 0 _ _ h1
  have V1 := set_cellsH h1 0 (.func (.func 69) #[] #[.pointer (some ⟨w.heap.size, 0, none⟩)])
  have V0 := (Below.heap_setCell (w1.alloc (.cells #[.nilFunc] 71)) ⟨w1.heap.size, 0, none⟩ (.func (.func 69) #[] #[.pointer (some ⟨w.heap.size, 0, none⟩)]) w.heap.size (show w.heap.size ≠ w1.heap.size by omega)).trans h0'
  have hb2 := ((hb1.alloc (by omega) (.cells #[.nilFunc] 71))).setCell (p := ⟨w1.heap.size, 0, none⟩) (show w.heap.size ≤ w1.heap.size from by omega) (.func (.func 69) #[] #[.pointer (some ⟨w.heap.size, 0, none⟩)])
  have hz2 : ((w1.alloc (.cells #[.nilFunc] 71)).setCell ⟨w1.heap.size, 0, none⟩ (.func (.func 69) #[] #[.pointer (some ⟨w.heap.size, 0, none⟩)])).heap.size = w1.heap.size + 1 := by simp
  have H0 := Lib.hid V0; have H1 := Lib.hid V1; have HB := Lib.hid hb2; have HZ1 := Lib.hid hz1; have HZ2 := Lib.hid hz2
  clear h0 h0' h1 hb1 hb2 hz1 hz2 V0 V1
  go_wp2_with fail
  rw [run_storeFn]
  unfold stored
  rw [c1]
  simp only [f1, Bool.false_eq_true, if_false]
  clear c1 f1
  generalize (w1.alloc (.cells #[.nilFunc] 71)).setCell ⟨w1.heap.size, 0, none⟩ (.func (.func 69) #[] #[.pointer (some ⟨w.heap.size, 0, none⟩)]) = w2 at H0 H1 HB HZ2 ⊢
  rw [HZ1.out] at H1 HZ2 ⊢
  go_wp2_with fail
  go_ret
  have hz := HZ2.out
  have h2 := heap_alloc_new w2 (.cells #[.int .i64 k, .func (.func 58) #[] #[.pointer (some ⟨w.heap.size + 1, 0, none⟩)], .slice none 0 0, .int .i64 0] 77)
  have hb := HB.out.alloc (by omega) (.cells #[.int .i64 k, .func (.func 58) #[] #[.pointer (some ⟨w.heap.size + 1, 0, none⟩)], .slice none 0 0, .int .i64 0] 77)
  have hold : ∀ j x, w2.heap[j]? = some x → (w2.alloc (.cells #[.int .i64 k, .func (.func 58) #[] #[.pointer (some ⟨w.heap.size + 1, 0, none⟩)], .slice none 0 0, .int .i64 0] 77)).heap[j]? = some x := fun j x h => (Below.heap_alloc w2 _ j (Array.getElem?_eq_some_iff.1 h).1).trans h
  rw [show w2.heap.size = w.heap.size + 2 from hz] at h2 ⊢
  exact ⟨rfl, hold _ _ H0.out, hold _ _ H1.out, ⟨.slice none 0 0, h2, World.ownsRow_nil _ _ _ _⟩, hb, by rw [World.size_alloc, hz]⟩
end Go.Proofs.Ytlajceamjodcjaa
