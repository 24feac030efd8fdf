/- Channels tried in one goroutine: a call within such a walk; pointers in a buffer. -/
import Derived.Test.YtfdiclamjgldnaaProg
import Derived.Test.YtfdiclamjgldnaaMem
import Derived.Outline
import Derived.Conc.LoneSelect
namespace Go.Proofs.Ytfdiclamjgldnaa
open Go Go.RowKit Go.Conc

/-- a contract met within a walk of the machine of one -/
theorem LoneTo.calls {P : Program} {Q : Goroutine → World → Prop} {f : FuncId} {fn : Func} {c : Code} {xs args : Array Value} {v : Value} {w : World} (hf : P.funcs[f]? = some fn) (hb : fn.body = some c) (ha : xs = args)
    (h : Calls P f args w fun e w' => e = .returned v ∧ w = w') {b : Frame} {a : Act} {ops : Array Oper} {i : Nat} {rest : List Nat} {k : List Item} {cs : List Frame}
    (h' : LoneTo P Q (G (b.at (a.put ((ops[i]?).bind (·.dst)) v) (.inRegion ops rest :: k)) cs) w) :
    LoneTo P Q (G ((base f).at { tmps := xs ++ Array.replicate (fn.ntmps - xs.size) undef, defers := [] } [.code c]) (b.at a (.inRegion ops (i :: rest) :: k) :: cs)) w := by
  subst ha
  obtain ⟨e, w', fr, ⟨rfl, rfl⟩, hs, hfr, hl⟩ := h (b.at a (.inRegion ops (i :: rest) :: k) :: cs)
  rw [← enter_at _ hf hb]
  have h1 := step_leave_returned (c := b.at a (.inRegion ops (i :: rest) :: k)) (cs := cs) hl
  rw [Frame.finish_at] at h1
  obtain ⟨g2, w2, hs2, hq⟩ := h'
  exact ⟨g2, w2, Steps.trans hs (Steps.head h1 hs2), hq⟩
/-- pointers to blocks of one cell -/
def ptrs (gs : List Nat) : List Value := gs.map fun g => Value.pointer (some ⟨g, 0, none⟩)
end Go.Proofs.Ytfdiclamjgldnaa
