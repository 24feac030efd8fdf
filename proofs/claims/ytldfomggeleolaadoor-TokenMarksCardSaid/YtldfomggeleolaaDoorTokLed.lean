/- token's each, in its order. -/
import Derived.Test.YtldfomggeleolaaDoorTokEach
import Derived.Test.YtldfomggeleolaaDoorLedLoop
namespace Go.Proofs.YtldfomggeleolaaDoor
open Go Go.RowKit Go.Shelf
set_option linter.unusedVariables false

/-- each word comes behind those ahead of it -/
def Next (s : ByteArray) (pre : List (Wd s)) (x : Wd s) : Prop := (pre.map (·.1) ++ [x.1]) <+: Tok.num 0 (Tok.spans s)
theorem each_led (s : ByteArray) (hs : s.size ≤ 100000) (m Bn : Nat) (w0 w1 : World) (hT : Tables w0) (hb : Below w0.heap.size w0 w1) (hBn : w1.heap[Bn]? = some (Obj.cells #[.string s] 9 (0, 0))) :
    Led (Next s) Fence.wide m Tryd.prog 34 #[.pointer (some ⟨Bn, 0, none⟩)] (encW (s := s)) (KpT w0.heap.size) (fun ys => ys.map (·.1) = Tok.num 0 (Tok.spans s)) (fun pre => pre.map (·.1) <+: Tok.num 0 (Tok.spans s)) w1 :=
  fun l J Jx W hW hJ _ hY h0 => each1_in s hs m l Bn w0 hT J Jx W ((hW.block Bn (Array.getElem?_eq_some_iff.1 hBn).1).trans hBn) (hb.trans (hW.mono hb.size)) hJ (fun pre x W1 h1 _ h2 => hY pre x W1 h1 h2) h0
theorem next_spans {s : ByteArray} {pre : List (Wd s)} {x : Wd s} (h : Next s pre x) : (pre.map (·.1.2) ++ [x.1.2]) <+: Tok.spans s := by
  obtain ⟨r, hr⟩ := h
  refine ⟨r.map (·.2), ?_⟩
  have := congrArg (List.map Prod.snd) hr
  rw [Tok.num_snd, List.map_append, List.map_append, List.map_map] at this
  exact this
end Go.Proofs.YtldfomggeleolaaDoor
