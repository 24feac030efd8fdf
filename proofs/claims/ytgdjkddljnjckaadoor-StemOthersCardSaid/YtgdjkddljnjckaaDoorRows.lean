/-
  NARROWER THAN 'FOR EVERY INPUT', by the rows' own cells (each row's printed sentence says how): StemWords: laid · StemShort: laid · StemOthers: laid.
  DERIVED. THE GIVEN ROWS OF THIS SEAT. 3 by the template 'for every input the law returns true; each argument reads behind the call as it read before'; 0 by the template 'total and deterministic' (their statements: YtgdjkddljnjckaaDoorTotals.lean).
  GIVEN WITH THE SEED: the statements are not yours to turn. If you find one false, say at which input.
  Laid BY PROGRAM, IN A SANDBOX (cutbox-rows.mjs): the forced cells as the released guide's own fill.sh prints them over the translation 227f23cc545ec59e… (all of the seat's roots in one cut). By AI agents, Wed Nov 11 2026. No macro, syntax, notation, axiom, sorry.
-/
import Derived.Test.YtgdjkddljnjckaaDoorChecked
import GoSem.Claim
import GoSem.ClaimJoined
import GoSem.ClaimMapViews
import Derived.JoinedTies
import Derived.KernelRfl
namespace Go.Proofs.YtgdjkddljnjckaaDoor
/- THE CELL 'sum', in the pinned program and in every row, IS THE sha256 OF THE DUMP (.gsa) THAT YtgdjkddljnjckaaDoorProg.lean LOADS. Nothing in Lean hashes anything: it is a label: what it is worth is what the hold of that sum in a sandbox is worth. -/
noncomputable def Tryd.pinned : Pinned := { name := "ytgdjkddljnjckaadoor", sum := "227f23cc545ec59ec6e4d792968007b3736752a19b6b0987edff5add008d7b0e", checked := Tryd.checked }
namespace Rows
def none {H : Type} : Left H := { results := [], args := [] }

/- WHAT THE LISTED PACKAGE-LEVEL VARIABLES READ AS WHEN THE CALL BEGINS. Each datum BY PROGRAM (the guide's laid-datum.mjs) off the statement by which the dump's own 'gosem.cut.vars' lays the variable. In a bare row this is a premise. The card (YtgdjkddljnjckaaDoorCards.lean) ties it to the program's text. -/
def laid_scholia_stem_endings {H : Type} : DataW H := .slice [.agg [.lit (.int .i64 1), .lit (.string [115, 115, 101, 115]), .lit (.int .i64 0), .lit (.string [115, 115])], .agg [.lit (.int .i64 1), .lit (.string [105, 101, 115]), .lit (.int .i64 2), .lit (.string [121])], .agg [.lit (.int .i64 1), .lit (.string [115, 115]), .lit (.int .i64 0), .lit (.string [115, 115])], .agg [.lit (.int .i64 1), .lit (.string [117, 115]), .lit (.int .i64 0), .lit (.string [117, 115])], .agg [.lit (.int .i64 1), .lit (.string [105, 115]), .lit (.int .i64 0), .lit (.string [105, 115])], .agg [.lit (.int .i64 1), .lit (.string [115]), .lit (.int .i64 0), .lit (.string [])], .agg [.lit (.int .i64 2), .lit (.string [105, 110, 103]), .lit (.int .i64 3), .lit (.string [])], .agg [.lit (.int .i64 2), .lit (.string [101, 100]), .lit (.int .i64 3), .lit (.string [])], .agg [.lit (.int .i64 3), .lit (.string [105, 122, 97, 116, 105, 111, 110]), .lit (.int .i64 3), .lit (.string [105, 122, 101])], .agg [.lit (.int .i64 3), .lit (.string [97, 116, 105, 111, 110]), .lit (.int .i64 3), .lit (.string [97, 116, 101])], .agg [.lit (.int .i64 3), .lit (.string [102, 117, 108, 108, 121]), .lit (.int .i64 3), .lit (.string [102, 117, 108])], .agg [.lit (.int .i64 3), .lit (.string [110, 101, 115, 115]), .lit (.int .i64 3), .lit (.string [])], .agg [.lit (.int .i64 3), .lit (.string [109, 101, 110, 116]), .lit (.int .i64 3), .lit (.string [])], .agg [.lit (.int .i64 3), .lit (.string [97, 108, 108, 121]), .lit (.int .i64 3), .lit (.string [97, 108])], .agg [.lit (.int .i64 3), .lit (.string [108, 121]), .lit (.int .i64 3), .lit (.string [])]] []

/-- 'scholialaw16.StemWords': WHATEVER THE INPUT: true; the input reads as it did. -/
def stemWordsSpec : ChangeSpec := { name := "stemWords", fn := fun _ => fun
  | [d] => { results := [.lit (.bool true)], args := [d] }
  | _ => none }
def stemWordsRow : OpenClaim := { program := "ytgdjkddljnjckaadoor", sum := "227f23cc545ec59ec6e4d792968007b3736752a19b6b0987edff5add008d7b0e", func := "scholia/scholialaw16.StemWords", spec := "stemWords", inPlace := ["internal/bytealg.IndexByteString", "internal/bytealg.IndexString"], named := ["scholia/stem.endings", "internal/bytealg.MaxLen"], apart := false, laid := [("scholia/stem.endings", laid_scholia_stem_endings)] }
def StemWordsSaid : Prop := stemWordsRow.holds Tryd.pinned (OpenSpec.ofChange stemWordsSpec)

/-- ITS FALSE NEIGHBOUR: 'it returns false'. Refute it at one input. -/
def stemWordsWrong : ChangeSpec := { name := "stemWords", fn := fun _ => fun
  | [d] => { results := [.lit (.bool false)], args := [d] }
  | _ => none }
def StemWordsWrongFalsely : Prop := stemWordsRow.holds Tryd.pinned (OpenSpec.ofChange stemWordsWrong)

/-- 'scholialaw16.StemShort': WHATEVER THE INPUT: true; the input reads as it did. -/
def stemShortSpec : ChangeSpec := { name := "stemShort", fn := fun _ => fun
  | [d] => { results := [.lit (.bool true)], args := [d] }
  | _ => none }
def stemShortRow : OpenClaim := { program := "ytgdjkddljnjckaadoor", sum := "227f23cc545ec59ec6e4d792968007b3736752a19b6b0987edff5add008d7b0e", func := "scholia/scholialaw16.StemShort", spec := "stemShort", inPlace := ["internal/bytealg.IndexByteString", "internal/bytealg.IndexString"], named := ["scholia/stem.endings", "internal/bytealg.MaxLen"], apart := false, laid := [("scholia/stem.endings", laid_scholia_stem_endings)] }
def StemShortSaid : Prop := stemShortRow.holds Tryd.pinned (OpenSpec.ofChange stemShortSpec)

/-- ITS FALSE NEIGHBOUR: 'it returns false'. Refute it at one input. -/
def stemShortWrong : ChangeSpec := { name := "stemShort", fn := fun _ => fun
  | [d] => { results := [.lit (.bool false)], args := [d] }
  | _ => none }
def StemShortWrongFalsely : Prop := stemShortRow.holds Tryd.pinned (OpenSpec.ofChange stemShortWrong)

/-- 'scholialaw16.StemOthers': WHATEVER THE INPUT: true; the input reads as it did. -/
def stemOthersSpec : ChangeSpec := { name := "stemOthers", fn := fun _ => fun
  | [d1, d2, d3] => { results := [.lit (.bool true)], args := [d1, d2, d3] }
  | _ => none }
def stemOthersRow : OpenClaim := { program := "ytgdjkddljnjckaadoor", sum := "227f23cc545ec59ec6e4d792968007b3736752a19b6b0987edff5add008d7b0e", func := "scholia/scholialaw16.StemOthers", spec := "stemOthers", inPlace := ["internal/bytealg.IndexByteString", "internal/bytealg.IndexString"], named := ["scholia/stem.endings", "internal/bytealg.MaxLen"], apart := false, laid := [("scholia/stem.endings", laid_scholia_stem_endings)] }
def StemOthersSaid : Prop := stemOthersRow.holds Tryd.pinned (OpenSpec.ofChange stemOthersSpec)

/-- ITS FALSE NEIGHBOUR: 'it returns false'. Refute it at one input. -/
def stemOthersWrong : ChangeSpec := { name := "stemOthers", fn := fun _ => fun
  | [d1, d2, d3] => { results := [.lit (.bool false)], args := [d1, d2, d3] }
  | _ => none }
def StemOthersWrongFalsely : Prop := stemOthersRow.holds Tryd.pinned (OpenSpec.ofChange stemOthersWrong)

/- THE SECOND FORM. 'bulk': how many values and letters a reading holds, each counted each time it is reached (what is shared counts as often as it is met; a slice's spare places count too). A statement '..UptoSaid' is the law's where the arguments, and the package variables that the reading takes, are together of bulk at most 1048576: NARROWER than '..Said'. Prove '..Said' where nothing that the law and all that it calls make is longer than what came in: it says more and counts as full. Else prove '..UptoSaid'. A law counts once. -/
mutual
def uptoBulk {H : Type} : DataW H → Nat
  | .lit (.string bytes) => bytes.length + 1
  | .lit _ => 1
  | .nil => 1
  | .ptr d => uptoBulk d + 1
  | .slice elems spare => uptoBulkAll elems + uptoBulkAll spare + 1
  | .agg parts => uptoBulkAll parts + 1
  | .iface _ d => uptoBulk d + 1
  | .map entries => uptoBulkEntries entries + 1
  | .held _ => 1
def uptoBulkAll {H : Type} : List (DataW H) → Nat
  | [] => 0
  | d :: r => uptoBulk d + uptoBulkAll r
def uptoBulkEntries {H : Type} : List (Lit × DataW H) → Nat
  | [] => 0
  | x :: r => uptoBulkEntry x + uptoBulkEntries r
def uptoBulkEntry {H : Type} : Lit × DataW H → Nat
  | (.string bytes, d) => bytes.length + uptoBulk d + 1
  | (_, d) => uptoBulk d + 1
 end
def uptoSmall : (H : Type) → List (DataW H) → Bool := fun _ ds => decide (uptoBulkAll ds ≤ 1048576)
def OpenSpec.upto (s : _root_.Go.ChangeSpec) : _root_.Go.OpenSpec := { _root_.Go.OpenSpec.ofChange s with cond := some uptoSmall }

/-- 'scholialaw16.StemWords', WHERE WHAT IT READS IS OF BULK AT MOST 1048576: true; the input reads as it did. -/
def stemWordsUptoRow : OpenClaim := { program := "ytgdjkddljnjckaadoor", sum := "227f23cc545ec59ec6e4d792968007b3736752a19b6b0987edff5add008d7b0e", func := "scholia/scholialaw16.StemWords", spec := "stemWords", inPlace := ["internal/bytealg.IndexByteString", "internal/bytealg.IndexString"], named := ["scholia/stem.endings", "internal/bytealg.MaxLen"], apart := false, laid := [("scholia/stem.endings", laid_scholia_stem_endings)], narrowed := true }
def StemWordsUptoSaid : Prop := stemWordsUptoRow.holds Tryd.pinned (OpenSpec.upto stemWordsSpec)

/-- 'scholialaw16.StemShort', WHERE WHAT IT READS IS OF BULK AT MOST 1048576: true; the input reads as it did. -/
def stemShortUptoRow : OpenClaim := { program := "ytgdjkddljnjckaadoor", sum := "227f23cc545ec59ec6e4d792968007b3736752a19b6b0987edff5add008d7b0e", func := "scholia/scholialaw16.StemShort", spec := "stemShort", inPlace := ["internal/bytealg.IndexByteString", "internal/bytealg.IndexString"], named := ["scholia/stem.endings", "internal/bytealg.MaxLen"], apart := false, laid := [("scholia/stem.endings", laid_scholia_stem_endings)], narrowed := true }
def StemShortUptoSaid : Prop := stemShortUptoRow.holds Tryd.pinned (OpenSpec.upto stemShortSpec)

/-- 'scholialaw16.StemOthers', WHERE WHAT IT READS IS OF BULK AT MOST 1048576: true; the input reads as it did. -/
def stemOthersUptoRow : OpenClaim := { program := "ytgdjkddljnjckaadoor", sum := "227f23cc545ec59ec6e4d792968007b3736752a19b6b0987edff5add008d7b0e", func := "scholia/scholialaw16.StemOthers", spec := "stemOthers", inPlace := ["internal/bytealg.IndexByteString", "internal/bytealg.IndexString"], named := ["scholia/stem.endings", "internal/bytealg.MaxLen"], apart := false, laid := [("scholia/stem.endings", laid_scholia_stem_endings)], narrowed := true }
def StemOthersUptoSaid : Prop := stemOthersUptoRow.holds Tryd.pinned (OpenSpec.upto stemOthersSpec)

end Rows
end Go.Proofs.YtgdjkddljnjckaaDoor
