/-
  No cell of these rows narrows 'for every input' (looked for: loops, veiled, ifaces, maps, wideKeys, modest, calm, conditions, laid).
  DERIVED. THE GIVEN ROWS OF THIS SEAT. 3 by the template 'for every input the law returns true; each argument reads behind the call as it read before'; 0 by the template 'total and deterministic' (their statements: YtnfknnkhabjciaaTotals.lean).
  GIVEN WITH THE SEED: the statements are not yours to turn. If you find one false, say at which input.
  Laid BY PROGRAM, IN A SANDBOX (cutbox-rows.mjs): the forced cells as the released guide's own fill.sh prints them over the translation d8540a5eff0d4e47… (all of the seat's roots in one cut). By AI agents, Wed Nov 11 2026. No macro, syntax, notation, axiom, sorry.
-/
import Derived.Test.YtnfknnkhabjciaaChecked
import GoSem.Claim
import GoSem.ClaimJoined
import GoSem.ClaimMapViews
import Derived.JoinedTies
import Derived.KernelRfl
namespace Go.Proofs.Ytnfknnkhabjciaa
/- THE CELL 'sum', in the pinned program and in every row, IS THE sha256 OF THE DUMP (.gsa) THAT YtnfknnkhabjciaaProg.lean LOADS. Nothing in Lean hashes anything: it is a label: what it is worth is what the hold of that sum in a sandbox is worth. -/
noncomputable def Try.pinned : Pinned := { name := "ytnfknnkhabjciaa", sum := "d8540a5eff0d4e470e74fb1bb609ee65c1a1e59850919b3da6c2ad5d760413ca", checked := Try.checked }
namespace Rows
def none {H : Type} : Left H := { results := [], args := [] }

/-- 'scholialaw08.DotsTidy': WHATEVER THE INPUT: true; the input reads as it did. -/
def dotsTidySpec : ChangeSpec := { name := "dotsTidy", fn := fun _ => fun
  | [d1, d2] => { results := [.lit (.bool true)], args := [d1, d2] }
  | _ => none }
def dotsTidyRow : OpenClaim := { program := "ytnfknnkhabjciaa", sum := "d8540a5eff0d4e470e74fb1bb609ee65c1a1e59850919b3da6c2ad5d760413ca", func := "scholia/scholialaw08.DotsTidy", spec := "dotsTidy", unfollowed := true, recurses := true, apart := false }
def DotsTidySaid : Prop := dotsTidyRow.holds Try.pinned (OpenSpec.ofChange dotsTidySpec)

/-- ITS FALSE NEIGHBOUR: 'it returns false'. Refute it at one input. -/
def dotsTidyWrong : ChangeSpec := { name := "dotsTidy", fn := fun _ => fun
  | [d1, d2] => { results := [.lit (.bool false)], args := [d1, d2] }
  | _ => none }
def DotsTidyWrongFalsely : Prop := dotsTidyRow.holds Try.pinned (OpenSpec.ofChange dotsTidyWrong)

/-- 'scholialaw08.DotsUnion': WHATEVER THE INPUT: true; the input reads as it did. -/
def dotsUnionSpec : ChangeSpec := { name := "dotsUnion", fn := fun _ => fun
  | [d1, d2, d3] => { results := [.lit (.bool true)], args := [d1, d2, d3] }
  | _ => none }
def dotsUnionRow : OpenClaim := { program := "ytnfknnkhabjciaa", sum := "d8540a5eff0d4e470e74fb1bb609ee65c1a1e59850919b3da6c2ad5d760413ca", func := "scholia/scholialaw08.DotsUnion", spec := "dotsUnion", unfollowed := true, recurses := true, apart := false }
def DotsUnionSaid : Prop := dotsUnionRow.holds Try.pinned (OpenSpec.ofChange dotsUnionSpec)

/-- ITS FALSE NEIGHBOUR: 'it returns false'. Refute it at one input. -/
def dotsUnionWrong : ChangeSpec := { name := "dotsUnion", fn := fun _ => fun
  | [d1, d2, d3] => { results := [.lit (.bool false)], args := [d1, d2, d3] }
  | _ => none }
def DotsUnionWrongFalsely : Prop := dotsUnionRow.holds Try.pinned (OpenSpec.ofChange dotsUnionWrong)

/-- 'scholialaw08.DotsKnown': WHATEVER THE INPUT: true; the input reads as it did. -/
def dotsKnownSpec : ChangeSpec := { name := "dotsKnown", fn := fun _ => fun
  | [d1, d2, d3] => { results := [.lit (.bool true)], args := [d1, d2, d3] }
  | _ => none }
def dotsKnownRow : OpenClaim := { program := "ytnfknnkhabjciaa", sum := "d8540a5eff0d4e470e74fb1bb609ee65c1a1e59850919b3da6c2ad5d760413ca", func := "scholia/scholialaw08.DotsKnown", spec := "dotsKnown", unfollowed := true, recurses := true, apart := false }
def DotsKnownSaid : Prop := dotsKnownRow.holds Try.pinned (OpenSpec.ofChange dotsKnownSpec)

/-- ITS FALSE NEIGHBOUR: 'it returns false'. Refute it at one input. -/
def dotsKnownWrong : ChangeSpec := { name := "dotsKnown", fn := fun _ => fun
  | [d1, d2, d3] => { results := [.lit (.bool false)], args := [d1, d2, d3] }
  | _ => none }
def DotsKnownWrongFalsely : Prop := dotsKnownRow.holds Try.pinned (OpenSpec.ofChange dotsKnownWrong)

/- THE SECOND FORM. 'bulk': how many values and letters a reading holds, each counted each time it is reached (what is shared counts as often as it is met; a slice's spare places count too). A statement '..UptoSaid' is the law's where the arguments, and the package variables that the reading takes, are together of bulk at most 1048576: NARROWER than '..Said'. Prove '..Said' where nothing that the law and all that it calls make is longer than what came in: it says more and counts as full. Else prove '..UptoSaid'. A law counts once. -/
mutual
def uptoBulk {H : Type} : DataW H → Nat
  | .lit (.string bytes) => bytes.length + 1
  | .lit _ => 1
  | .nil => 1
  | .ptr d => uptoBulk d + 1
  | .slice elems spare => uptoBulkAll elems + uptoBulkAll spare + 1
  | .agg parts => uptoBulkAll parts + 1
  | .iface _ d => uptoBulk d + 1
  | .map entries => uptoBulkEntries entries + 1
  | .held _ => 1
def uptoBulkAll {H : Type} : List (DataW H) → Nat
  | [] => 0
  | d :: r => uptoBulk d + uptoBulkAll r
def uptoBulkEntries {H : Type} : List (Lit × DataW H) → Nat
  | [] => 0
  | x :: r => uptoBulkEntry x + uptoBulkEntries r
def uptoBulkEntry {H : Type} : Lit × DataW H → Nat
  | (.string bytes, d) => bytes.length + uptoBulk d + 1
  | (_, d) => uptoBulk d + 1
 end
def uptoSmall : (H : Type) → List (DataW H) → Bool := fun _ ds => decide (uptoBulkAll ds ≤ 1048576)
def OpenSpec.upto (s : _root_.Go.ChangeSpec) : _root_.Go.OpenSpec := { _root_.Go.OpenSpec.ofChange s with cond := some uptoSmall }

/-- 'scholialaw08.DotsTidy', WHERE WHAT IT READS IS OF BULK AT MOST 1048576: true; the input reads as it did. -/
def dotsTidyUptoRow : OpenClaim := { program := "ytnfknnkhabjciaa", sum := "d8540a5eff0d4e470e74fb1bb609ee65c1a1e59850919b3da6c2ad5d760413ca", func := "scholia/scholialaw08.DotsTidy", spec := "dotsTidy", unfollowed := true, recurses := true, apart := false, narrowed := true }
def DotsTidyUptoSaid : Prop := dotsTidyUptoRow.holds Try.pinned (OpenSpec.upto dotsTidySpec)

/-- 'scholialaw08.DotsUnion', WHERE WHAT IT READS IS OF BULK AT MOST 1048576: true; the input reads as it did. -/
def dotsUnionUptoRow : OpenClaim := { program := "ytnfknnkhabjciaa", sum := "d8540a5eff0d4e470e74fb1bb609ee65c1a1e59850919b3da6c2ad5d760413ca", func := "scholia/scholialaw08.DotsUnion", spec := "dotsUnion", unfollowed := true, recurses := true, apart := false, narrowed := true }
def DotsUnionUptoSaid : Prop := dotsUnionUptoRow.holds Try.pinned (OpenSpec.upto dotsUnionSpec)

/-- 'scholialaw08.DotsKnown', WHERE WHAT IT READS IS OF BULK AT MOST 1048576: true; the input reads as it did. -/
def dotsKnownUptoRow : OpenClaim := { program := "ytnfknnkhabjciaa", sum := "d8540a5eff0d4e470e74fb1bb609ee65c1a1e59850919b3da6c2ad5d760413ca", func := "scholia/scholialaw08.DotsKnown", spec := "dotsKnown", unfollowed := true, recurses := true, apart := false, narrowed := true }
def DotsKnownUptoSaid : Prop := dotsKnownUptoRow.holds Try.pinned (OpenSpec.upto dotsKnownSpec)

end Rows
end Go.Proofs.Ytnfknnkhabjciaa
